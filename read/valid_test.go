package read_test

import (
	"slices"

	"cosigner/api"
	"cosigner/lex"
)

// validity tells by the tree alone, part by part, whether a text says it. (How deep it is nested does not matter here.)
type validity struct{ formals []string }

func is(kind int, names ...string) bool {
	for _, s := range names {
		if k, err := lex.Shape(s); k != kind || err != api.OK {
			return false
		}
	}
	return true
}

func small(names ...string) bool   { return is(api.TkName, names...) }
func capital(names ...string) bool { return is(api.TkClass, names...) }

func all[T any](l []T, valid func(T) bool) bool {
	for _, x := range l {
		if !valid(x) {
			return false
		}
	}
	return true
}

func (v validity) expr(e api.Expr) bool {
	name, n, kids := e.Name, e.N, len(e.Kids)
	switch e.Kind {
	case api.ExInt:
		return name == "" && 0 <= n && n <= api.MaxNum && kids == 0
	case api.ExBool:
		return name == "" && (n == 0 || n == 1) && kids == 0
	case api.ExVoid, api.ExCurrent, api.ExResult:
		return name == "" && n == 0 && kids == 0
	case api.ExCall:
		return small(name) && (n == 0 || n == 1 && kids > 0) && all(e.Kids, v.expr)
	case api.ExBin:
		operator := slices.ContainsFunc(operators, func(l []string) bool { return slices.Contains(l, name) })
		return operator && n == 0 && kids == 2 && all(e.Kids, v.expr)
	case api.ExUn:
		return (name == "-" || name == "not") && n == 0 && kids == 1 && all(e.Kids, v.expr)
	case api.ExOld:
		return name == "" && n == 0 && kids == 1 && all(e.Kids, v.expr)
	case api.ExAttached:
		return small(name) && n == 0 && kids == 1 && all(e.Kids, v.expr)
	}
	return false
}

func (v validity) clause(c api.Clause) bool {
	return small(c.Tag) && v.expr(c.Expr)
}

func (v validity) stmts(l []api.Stmt) bool {
	return all(l, v.stmt)
}

// stmt reports whether a statement has what its kind has, and nothing else.
func (v validity) stmt(s api.Stmt) bool {
	if !all(s.Exprs, v.expr) || !all(s.Tags, v.clause) || !v.stmts(s.Init) || !v.stmts(s.Body) || !v.stmts(s.Else) {
		return false
	}
	exprs, tags, init, body, other := len(s.Exprs), len(s.Tags), len(s.Init), len(s.Body), len(s.Else)
	switch s.Kind {
	case api.StAssign:
		return (small(s.Name) || s.Name == "Result") && s.N == 0 && exprs == 1 && tags+init+body+other == 0
	case api.StCall:
		return s.Name == "" && s.N == 0 && exprs == 1 && s.Exprs[0].Kind == api.ExCall && tags+init+body+other == 0
	case api.StMake:
		return (small(s.Name) || s.Name == "Result") && s.N == 0 && exprs == 1 && s.Exprs[0].Kind == api.ExCall && s.Exprs[0].N == 0 && tags+init+body+other == 0
	case api.StIf:
		return s.Name == "" && s.N == 0 && exprs == 1 && tags+init == 0
	case api.StLoop:
		return s.Name == "" && s.N == 0 && (exprs == 1 || exprs == 2) && other == 0
	case api.StCheck:
		return s.Name == "" && s.N == 0 && exprs+init+body+other == 0
	case api.StSep:
		return small(s.Name) && s.N == 0 && (exprs == 1 || exprs == 2) && tags+init+other == 0
	case api.StRetry:
		return s.Name == "" && s.N == 0 && exprs+tags+init+body+other == 0
	case api.StRaise:
		return s.Name == "" && 0 <= s.N && s.N <= 99 && exprs+tags+init+body+other == 0
	case api.StPut:
		return s.Name == "" && s.N == 0 && exprs == 1 && tags+init+body+other == 0
	}
	return false
}

func (v validity) typed(t api.Type) bool {
	isFormal := slices.Contains(v.formals, t.Name)
	switch t.Kind {
	case api.TyInt, api.TyBool:
		return t.Name == "" && len(t.Args) == 0 && !t.Void && !t.Sep
	case api.TyFormal:
		return isFormal && capital(t.Name) && !slices.Contains([]string{"INTEGER", "BOOLEAN", "NONE"}, t.Name) && len(t.Args) == 0 && !t.Sep
	case api.TyClass:
		return !isFormal && capital(t.Name) && !slices.Contains([]string{"INTEGER", "BOOLEAN", "NONE"}, t.Name) && all(t.Args, v.typed)
	}
	return false
}

func (v validity) variable(x api.Var) bool {
	return small(x.Name) && v.typed(x.Type)
}

func (v validity) feature(f api.Feature) bool {
	noType := alike(f.Type, api.Type{})
	if !small(f.Name) || len(f.Clients) == 0 || !capital(f.Clients...) || !noType && !v.typed(f.Type) || !all(f.Args, v.variable) || !all(f.Locals, v.variable) ||
		!all(f.Require, v.clause) || !all(f.Ensure, v.clause) || !v.stmts(f.Body) || !v.stmts(f.Rescue) {
		return false
	}
	switch f.Kind {
	case api.FeAttr:
		return !noType && len(f.Args)+len(f.Locals)+len(f.Require)+len(f.Ensure)+len(f.Body)+len(f.Rescue) == 0 && !f.Rescues
	case api.FeDeferred:
		return len(f.Locals)+len(f.Body)+len(f.Rescue) == 0 && !f.Rescues
	case api.FeRoutine:
		return f.Rescues || len(f.Rescue) == 0
	}
	return false
}

func (v validity) parent(p api.Parent) bool {
	return v.ancestor(p.Name) && all(p.Args, v.typed) && small(p.Undefine...) && small(p.Redefine...) && small(p.Select...) &&
		all(p.Rename, func(r api.Pair) bool { return small(r.From, r.To) })
}

func (v validity) ancestor(name string) bool {
	return capital(name) && !slices.Contains([]string{"INTEGER", "BOOLEAN", "NONE"}, name)
}

func (v validity) own(name string) bool {
	return v.ancestor(name) && name != "ANY"
}

// validClass reports whether a text says a class.
func validClass(c api.Class) bool {
	var v validity
	for _, f := range c.Formals {
		if !v.own(f.Name) || !v.ancestor(f.Bound) {
			return false
		}
		v.formals = append(v.formals, f.Name)
	}
	return v.own(c.Name) && all(c.Parents, v.parent) && small(c.Create...) && all(c.Features, v.feature) && all(c.Invariant, v.clause)
}
