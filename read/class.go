package read

import (
	"slices"

	"cosigner/api"
)

// system reads all tokens as classes.
func (p *parser) system() []api.Class {
	var l []api.Class
	for !p.ended() {
		if len(l) == api.MaxClasses && p.is("class", "deferred") {
			panic(p.slip(api.ErrLimit))
		}
		l = append(l, p.class())
	}
	return l
}

func (p *parser) class() api.Class {
	first := p.peek().At
	c := api.Class{Deferred: p.took("deferred")}
	p.expect("class")
	c.Name = p.capital("INTEGER", "BOOLEAN", "ANY", "NONE")
	p.option("[", func() {
		c.Formals = list(p, ",", p.formal)
		p.expect("]")
	})
	p.declare(formalNames(c.Formals))
	p.option("inherit", func() { c.Parents = p.parents() })
	p.option("create", func() { c.Create = p.names() })
	for p.took("feature") {
		c.Features = append(c.Features, p.clause()...)
	}
	p.option("invariant", func() { c.Invariant = p.asserts() })
	p.expect("end")
	limit(first, classDepth(c))
	return c
}

// formalNames returns the names of formals.
func formalNames(l []api.Formal) []string {
	var names []string
	for _, f := range l {
		names = append(names, f.Name)
	}
	return names
}

func (p *parser) formal() api.Formal {
	f := api.Formal{Name: p.capital("INTEGER", "BOOLEAN", "ANY", "NONE")}
	p.expect(":")
	f.Bound = p.ancestor()
	return f
}

// ancestor reads the name of a class that others can conform to.
func (p *parser) ancestor() string {
	return p.capital("INTEGER", "BOOLEAN", "NONE")
}

func (p *parser) parents() []api.Parent {
	l := []api.Parent{p.parent()}
	for p.peek().Kind == api.TkClass {
		l = append(l, p.parent())
	}
	return l
}

func (p *parser) parent() api.Parent {
	a := api.Parent{Name: p.ancestor()}
	a.Args = p.actuals()
	p.option("rename", func() { a.Rename = list(p, ",", p.renaming) })
	p.option("undefine", func() { a.Undefine = p.names() })
	p.option("redefine", func() { a.Redefine = p.names() })
	p.option("select", func() { a.Select = p.names() })
	p.expect(";")
	return a
}

func (p *parser) renaming() api.Pair {
	r := api.Pair{From: p.name()}
	p.expect("as")
	r.To = p.name()
	return r
}

// clause reads features with the same clients, behind the word. Each has its own list of them, as no two results share memory.
func (p *parser) clause() []api.Feature {
	p.expect("{")
	clients := list(p, ",", p.client)
	p.expect("}")
	l := []api.Feature{p.feature()}
	for p.peek().Kind == api.TkName {
		l = append(l, p.feature())
	}
	for i := range l {
		l[i].Clients = slices.Clone(clients)
	}
	return l
}

// feature reads a feature without its clients.
func (p *parser) feature() api.Feature {
	f := api.Feature{Name: p.name()}
	p.option("(", func() {
		f.Args = p.vars()
		p.expect(")")
	})
	p.option(":", func() { f.Type = p.typed() })
	switch {
	case p.is(";"):
		if f.Type.Kind == api.TyNone || len(f.Args) > 0 {
			panic(p.slip(api.ErrForm))
		}
		p.expect(";")
		f.Kind = api.FeAttr
	case p.took("deferred"):
		f.Kind = api.FeDeferred
		p.option("require", func() { f.Require = p.asserts() })
		p.option("ensure", func() { f.Ensure = p.asserts() })
		p.expect("end")
	default:
		f.Kind = api.FeRoutine
		p.routine(&f)
	}
	return f
}

// routine reads what belongs to a feature with a body.
func (p *parser) routine(f *api.Feature) {
	p.option("require", func() { f.Require = p.asserts() })
	p.option("local", func() { f.Locals = p.vars() })
	p.expect("do")
	f.Body = p.stmts()
	p.option("ensure", func() { f.Ensure = p.asserts() })
	f.Rescues = p.option("rescue", func() { f.Rescue = p.stmts() })
	p.expect("end")
}

func (p *parser) vars() []api.Var {
	return list(p, ";", p.variable)
}

func (p *parser) variable() api.Var {
	v := api.Var{Name: p.name()}
	p.expect(":")
	v.Type = p.typed()
	return v
}
