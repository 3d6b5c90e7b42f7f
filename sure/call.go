package sure

import (
	"slices"

	"cosigner/api"
)

// call looks at a call, or a variable.
func (c *checker) call(at int, e api.Expr) api.Type {
	kids := each(e.Kids, c.expr)
	if e.N == 1 {
		return c.targeted(at, e, kids)
	}
	if v, known := c.variable(e.Name); known {
		demand(len(kids) == 0, at, api.ErrForm)
		return c.read(at, v)
	}
	m, found := c.member(e.Name)
	demand(found, at, api.ErrName)
	t := c.request(at, current(c.class), m, kids)
	c.demandMade(at, m)
	return t
}

// read looks at a variable that is read.
func (c *checker) read(at int, v *variable) api.Type {
	isClause := c.part != inBody && c.part != inRescue
	demand(!isClause || v.role != isLocal, at, api.ErrName)
	demand(c.isSet(slot{name: v.Name}), at, api.ErrVoid)
	return v.Type
}

// demandMade looks at what is read, or called, of an object that is perhaps being created.
func (c *checker) demandMade(at int, m api.Member) {
	if m.Kind == api.FeAttr {
		demand(c.isSet(attribute(c.names[m.Name])), at, api.ErrVoid)
		return
	}
	demand(c.isMade(), at, api.ErrVoid)
}

// targeted looks at a call with a target; the types of this and of the arguments are known.
func (c *checker) targeted(at int, e api.Expr, kids []api.Type) api.Type {
	target := kids[0]
	demand(isObject(target), at, api.ErrType)
	demand(!target.Void, at, api.ErrVoid)
	demand(!target.Sep || c.isControlled(e.Kids[0]) && !c.isAssertion(), at, api.ErrState)
	target = c.classType(c.class.Name, target)
	m, found := c.members[target.Name][e.Name]
	demand(found, at, api.ErrName)
	demand(c.isClient(c.class.Name, m), at, api.ErrClash)
	return c.request(at, target, m, kids[1:])
}

// request looks at how a feature is called at a target, and returns what comes of it.
func (c *checker) request(at int, target api.Type, m api.Member, args []api.Type) api.Type {
	demand(!c.isAssertion() || m.Kind == api.FeAttr, at, api.ErrForm)
	demand(len(args) == len(m.Args), at, api.ErrArg)
	for i, arg := range args {
		formal, isRight := c.seen(target, m.Args[i].Type)
		mayGo := !target.Sep || !isObject(formal) || formal.Sep
		demand(isRight && mayGo && c.isConforming(c.class.Name, arg, formal), at, api.ErrType)
	}
	t, isRight := c.seen(target, m.Type)
	demand(isRight && !(target.Sep && t.Kind == api.TyFormal), at, api.ErrType)
	t.Sep = t.Sep || target.Sep && t.Kind == api.TyClass
	c.nodes[at].use = api.Seed{Class: target.Name, Name: m.Name}
	return t
}

// statementCall looks at a call that is a statement.
func (c *checker) statementCall(at int, s api.Stmt) {
	demand(s.Exprs[0].Kind == api.ExCall, at, api.ErrForm)
	_, t := c.called(s.Exprs[0])
	demand(t.Kind == api.TyNone, at, api.ErrType)
}

// make looks at a creation. Its call is a node, but it is the statement that is looked at.
func (c *checker) make(at int, s api.Stmt) {
	e := s.Exprs[0]
	demand(e.Kind == api.ExCall && e.N == 0, at, api.ErrForm)
	c.begin(true)
	args := each(e.Kids, c.expr)
	t := c.assignable(at, s.Name)
	demand(t.Kind == api.TyClass && t.Name != everything, at, api.ErrType)
	demand(!c.classes[t.Name].Deferred, at, api.ErrState)
	m, found := c.members[t.Name][e.Name]
	demand(found && slices.Contains(c.classes[t.Name].Create, e.Name), at, api.ErrNone)
	demand(c.request(at, attached(t), m, args).Kind == api.TyNone, at, api.ErrType)
	c.assigned(s.Name)
}

// assignable returns the type of what may be assigned, or created.
func (c *checker) assignable(at int, name string) api.Type {
	if name == result {
		demand(c.feature.Type.Kind != api.TyNone, at, api.ErrName)
		return c.feature.Type
	}
	if v, known := c.variable(name); known {
		demand(v.role == isLocal, at, api.ErrName)
		return v.Type
	}
	m, found := c.member(name)
	demand(found && m.Kind == api.FeAttr, at, api.ErrName)
	return m.Type
}
