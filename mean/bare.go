package mean

import (
	"slices"

	"cosigner/api"
)

// The functions of this file return copies that share no memory with what they copy, and have no assertions.

func bareClass(c api.Class) api.Class {
	c.Formals = slices.Clone(c.Formals)
	c.Parents = each(c.Parents, copyParent)
	c.Create = slices.Clone(c.Create)
	c.Features = each(c.Features, bareFeature)
	c.Invariant = nil
	return c
}

func bareFeature(f api.Feature) api.Feature {
	f.Clients = slices.Clone(f.Clients)
	f.Args = each(f.Args, copyVar)
	f.Type = copyType(f.Type)
	f.Locals = each(f.Locals, copyVar)
	f.Require, f.Ensure = nil, nil
	f.Body = bareStmts(f.Body)
	f.Rescue = bareStmts(f.Rescue)
	return f
}

func bareStmts(l []api.Stmt) []api.Stmt {
	return each(keep(l, isNoCheck), bareStmt)
}

func isNoCheck(s api.Stmt) bool {
	return s.Kind != api.StCheck
}

func bareStmt(s api.Stmt) api.Stmt {
	if s.Kind == api.StLoop && len(s.Exprs) > 1 {
		s.Exprs = s.Exprs[:1] // the variant is behind
	}
	s.Exprs = each(s.Exprs, copyExpr)
	s.Tags = nil
	s.Init = bareStmts(s.Init)
	s.Body = bareStmts(s.Body)
	s.Else = bareStmts(s.Else)
	return s
}

func copyParent(p api.Parent) api.Parent {
	p.Args = each(p.Args, copyType)
	p.Rename = slices.Clone(p.Rename)
	p.Undefine = slices.Clone(p.Undefine)
	p.Redefine = slices.Clone(p.Redefine)
	p.Select = slices.Clone(p.Select)
	return p
}

func copyVar(v api.Var) api.Var {
	v.Type = copyType(v.Type)
	return v
}

func copyType(t api.Type) api.Type {
	t.Args = each(t.Args, copyType)
	return t
}

func copyExpr(e api.Expr) api.Expr {
	e.Kids = each(e.Kids, copyExpr)
	return e
}
