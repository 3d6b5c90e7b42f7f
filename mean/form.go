package mean

import "cosigner/api"

// hasExprForm tells whether an expression has the parts of its kind, and a number that it may have.
func hasExprForm(e *api.Expr) bool {
	kids := len(e.Kids)
	switch e.Kind {
	case api.ExInt:
		return kids == 0 && e.N >= 0 && e.N <= api.MaxNum
	case api.ExBool:
		return kids == 0 && (e.N == 0 || e.N == 1)
	case api.ExVoid, api.ExCurrent, api.ExResult:
		return kids == 0
	case api.ExCall:
		return e.N == 0 || e.N == 1 && kids > 0
	case api.ExBin:
		return kids == 2
	case api.ExUn, api.ExOld, api.ExAttached:
		return kids == 1
	}
	return false
}

// isPlain tells whether an expression of a kind means something without a system.
func isPlain(kind int) bool {
	return kind == api.ExInt || kind == api.ExBool || kind == api.ExBin || kind == api.ExUn
}

// hasStmtForm tells whether a statement has the parts of its kind, and a number that it may have. A separate statement is not looked at: whatever it is, it is one.
func hasStmtForm(s *api.Stmt) bool {
	has := partsOf(s)
	switch s.Kind {
	case api.StAssign, api.StPut:
		return has == parts{exprs: 1}
	case api.StCall:
		return has == parts{exprs: 1} && s.Exprs[0].Kind == api.ExCall
	case api.StMake:
		return has == parts{exprs: 1} && s.Exprs[0].Kind == api.ExCall && s.Exprs[0].N == 0
	case api.StIf:
		return has.exprs == 1 && !has.tags && !has.init
	case api.StLoop:
		return (has.exprs == 1 || has.exprs == 2) && !has.other
	case api.StCheck:
		return has == parts{tags: has.tags}
	case api.StRetry:
		return has == parts{}
	case api.StRaise:
		return has == parts{} && s.N >= 0 && s.N <= 99
	}
	return s.Kind == api.StSep
}

// parts is how many expressions a statement has, and which other parts.
type parts struct {
	exprs                   int
	tags, init, body, other bool
}

func partsOf(s *api.Stmt) parts {
	return parts{len(s.Exprs), len(s.Tags) > 0, len(s.Init) > 0, len(s.Body) > 0, len(s.Else) > 0}
}
