package heir

import "cosigner/api"

// The functions of this file return copies that share no memory with what they copy.

func fresh[T any](l []T) []T {
	return append([]T(nil), l...)
}

func copyClass(c api.Class) api.Class {
	c.Formals = fresh(c.Formals)
	c.Parents = each(c.Parents, copyParent)
	c.Create = fresh(c.Create)
	c.Features = each(c.Features, copyFeature)
	c.Invariant = each(c.Invariant, copyClause)
	return c
}

func copyParent(p api.Parent) api.Parent {
	p.Args = each(p.Args, copyType)
	p.Rename = fresh(p.Rename)
	p.Undefine = fresh(p.Undefine)
	p.Redefine = fresh(p.Redefine)
	p.Select = fresh(p.Select)
	return p
}

func copyFeature(f api.Feature) api.Feature {
	f.Clients = fresh(f.Clients)
	f.Args = each(f.Args, copyVar)
	f.Type = copyType(f.Type)
	f.Locals = each(f.Locals, copyVar)
	f.Require = each(f.Require, copyClause)
	f.Ensure = each(f.Ensure, copyClause)
	f.Body = each(f.Body, copyStmt)
	f.Rescue = each(f.Rescue, copyStmt)
	return f
}

func copyVar(v api.Var) api.Var {
	v.Type = copyType(v.Type)
	return v
}

func copyType(t api.Type) api.Type {
	t.Args = each(t.Args, copyType)
	return t
}

func copyClause(c api.Clause) api.Clause {
	c.Expr = copyExpr(c.Expr)
	return c
}

func copyExpr(e api.Expr) api.Expr {
	e.Kids = each(e.Kids, copyExpr)
	return e
}

func copyStmt(s api.Stmt) api.Stmt {
	s.Exprs = each(s.Exprs, copyExpr)
	s.Tags = each(s.Tags, copyClause)
	s.Init = each(s.Init, copyStmt)
	s.Body = each(s.Body, copyStmt)
	s.Else = each(s.Else, copyStmt)
	return s
}
