package read

import (
	"slices"

	"cosigner/api"
)

// Same reports whether two classes are equal.
func Same(a, b api.Class) bool {
	return a.Name == b.Name && a.Deferred == b.Deferred && slices.Equal(a.Formals, b.Formals) &&
		slices.EqualFunc(a.Parents, b.Parents, sameParent) && slices.Equal(a.Create, b.Create) &&
		slices.EqualFunc(a.Features, b.Features, sameFeature) && sameClauses(a.Invariant, b.Invariant)
}

func sameParent(a, b api.Parent) bool {
	return a.Name == b.Name && slices.EqualFunc(a.Args, b.Args, sameType) && slices.Equal(a.Rename, b.Rename) &&
		slices.Equal(a.Undefine, b.Undefine) && slices.Equal(a.Redefine, b.Redefine) && slices.Equal(a.Select, b.Select)
}

func sameFeature(a, b api.Feature) bool {
	return a.Kind == b.Kind && a.Name == b.Name && slices.Equal(a.Clients, b.Clients) &&
		sameVars(a.Args, b.Args) && sameType(a.Type, b.Type) && sameVars(a.Locals, b.Locals) &&
		sameClauses(a.Require, b.Require) && sameClauses(a.Ensure, b.Ensure) &&
		sameStmts(a.Body, b.Body) && sameStmts(a.Rescue, b.Rescue) && a.Rescues == b.Rescues
}

func sameVars(a, b []api.Var) bool {
	return slices.EqualFunc(a, b, func(v, w api.Var) bool { return v.Name == w.Name && sameType(v.Type, w.Type) })
}

func sameType(a, b api.Type) bool {
	return a.Kind == b.Kind && a.Name == b.Name && slices.EqualFunc(a.Args, b.Args, sameType) && a.Void == b.Void && a.Sep == b.Sep
}

func sameClauses(a, b []api.Clause) bool {
	return slices.EqualFunc(a, b, func(c, d api.Clause) bool { return c.Tag == d.Tag && sameExpr(c.Expr, d.Expr) })
}

func sameStmts(a, b []api.Stmt) bool {
	return slices.EqualFunc(a, b, sameStmt)
}

func sameStmt(a, b api.Stmt) bool {
	return a.Kind == b.Kind && a.Name == b.Name && a.N == b.N &&
		slices.EqualFunc(a.Exprs, b.Exprs, sameExpr) && sameClauses(a.Tags, b.Tags) &&
		sameStmts(a.Init, b.Init) && sameStmts(a.Body, b.Body) && sameStmts(a.Else, b.Else)
}

func sameExpr(a, b api.Expr) bool {
	return a.Kind == b.Kind && a.Name == b.Name && a.N == b.N && slices.EqualFunc(a.Kids, b.Kids, sameExpr)
}
