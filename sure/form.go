package sure

import "cosigner/api"

// hasFeatureForm tells whether a feature has nothing that its kind does not use. (That an attribute has no arguments is seen to by package flat.)
func hasFeatureForm(f api.Feature) bool {
	hasBody := len(f.Locals) > 0 || len(f.Body) > 0 || len(f.Rescue) > 0 || f.Rescues
	switch f.Kind {
	case api.FeAttr:
		return !hasBody && len(f.Require) == 0 && len(f.Ensure) == 0
	case api.FeDeferred:
		return !hasBody
	}
	return f.Rescues || len(f.Rescue) == 0
}

// hasExprForm tells whether an expression has the parts of its kind.
func hasExprForm(e api.Expr) bool {
	kids, isNamed := len(e.Kids), false
	switch e.Kind {
	case api.ExInt:
		return kids == 0 && e.Name == ""
	case api.ExBool:
		return kids == 0 && e.Name == "" && (e.N == 0 || e.N == 1)
	case api.ExCall:
		return e.N == 0 || e.N == 1 && kids > 0
	case api.ExVoid, api.ExCurrent, api.ExResult:
	case api.ExBin:
		kids, isNamed = kids-2, true
	case api.ExUn, api.ExAttached:
		kids, isNamed = kids-1, true
	case api.ExOld:
		kids--
	default:
		return false
	}
	return kids == 0 && e.N == 0 && (isNamed || e.Name == "")
}

// form is what statements of a kind have: from how many to how many expressions, and which other parts.
type form struct {
	least, most                           int
	hasName, hasNumber                    bool
	hasTags, hasInit, hasBody, hasAnother bool
}

// formOf returns the form of statements of a kind, and whether there is this kind.
func formOf(kind int) (form, bool) {
	switch kind {
	case api.StAssign, api.StMake:
		return form{least: 1, most: 1, hasName: true}, true
	case api.StCall, api.StPut:
		return form{least: 1, most: 1}, true
	case api.StIf:
		return form{least: 1, most: 1, hasBody: true, hasAnother: true}, true
	case api.StLoop:
		return form{least: 1, most: 2, hasTags: true, hasInit: true, hasBody: true}, true
	case api.StCheck:
		return form{hasTags: true}, true
	case api.StSep:
		return form{least: 1, most: 2, hasName: true, hasBody: true}, true
	case api.StRaise:
		return form{hasNumber: true}, true
	}
	return form{}, kind == api.StRetry
}

// hasStmtForm tells whether a statement has the parts of its kind, and no others.
func hasStmtForm(s api.Stmt) bool {
	f, isKind := formOf(s.Kind)
	isCounted := len(s.Exprs) >= f.least && len(s.Exprs) <= f.most
	isSigned := (f.hasName || s.Name == "") && (f.hasNumber || s.N == 0)
	isFilled := (f.hasTags || len(s.Tags) == 0) && (f.hasInit || len(s.Init) == 0) && (f.hasBody || len(s.Body) == 0) && (f.hasAnother || len(s.Else) == 0)
	return isKind && isCounted && isSigned && isFilled
}
