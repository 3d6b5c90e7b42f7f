package flat

import "cosigner/api"

// The functions of this file return copies that share no memory with what they copy.

func fresh[T any](l []T) []T {
	return append([]T(nil), l...)
}

func copyFlat(f api.Flat) api.Flat {
	f.Members = each(f.Members, copyMember)
	f.Invariant = each(f.Invariant, copyGroup)
	return f
}

func copyMember(m api.Member) api.Member {
	m.Seeds = fresh(m.Seeds)
	m.Args = each(m.Args, copyVar)
	m.Type = copyType(m.Type)
	m.Clients = fresh(m.Clients)
	m.Pre = each(m.Pre, copyGroup)
	m.Post = each(m.Post, copyGroup)
	return m
}

func copyGroup(g api.Group) api.Group {
	g.Clauses = each(g.Clauses, copyClause)
	return g
}

func copyFeature(f api.Feature) api.Feature {
	f.Clients = fresh(f.Clients)
	f.Args = each(f.Args, copyVar)
	f.Type = copyType(f.Type)
	f.Locals = each(f.Locals, copyVar)
	f.Require = each(f.Require, copyClause)
	f.Ensure = each(f.Ensure, copyClause)
	f.Body = each(f.Body, copyStmt)
	f.Rescue = each(f.Rescue, copyStmt)
	return f
}

func copyVar(v api.Var) api.Var {
	v.Type = copyType(v.Type)
	return v
}

func copyType(t api.Type) api.Type {
	t.Args = each(t.Args, copyType)
	return t
}

func copyClause(c api.Clause) api.Clause {
	c.Expr = copyExpr(c.Expr)
	return c
}

func copyExpr(e api.Expr) api.Expr {
	e.Kids = each(e.Kids, copyExpr)
	return e
}

func copyStmt(s api.Stmt) api.Stmt {
	s.Exprs = each(s.Exprs, copyExpr)
	s.Tags = each(s.Tags, copyClause)
	s.Init = each(s.Init, copyStmt)
	s.Body = each(s.Body, copyStmt)
	s.Else = each(s.Else, copyStmt)
	return s
}
