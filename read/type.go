package read

import "cosigner/api"

// wholeType reads all tokens as a type.
func (p *parser) wholeType() api.Type {
	first := p.peek().At
	t := p.typed()
	p.finish()
	limit(first, typeDepth(t))
	return t
}

// typed reads a type. Only one of a class has actual types: nothing goes on with a `[` behind another one.
func (p *parser) typed() api.Type {
	var t api.Type
	t.Void = p.took("detachable")
	t.Sep = p.took("separate")
	wrong := p.slip(api.ErrForm)
	t.Name = p.capital("NONE")
	t.Kind = p.kindOf(t.Name)
	switch t.Kind {
	case api.TyClass:
		t.Args = p.actuals()
		return t
	case api.TyFormal:
		if t.Sep {
			panic(wrong)
		}
	default:
		if t.Void || t.Sep {
			panic(wrong)
		}
		t.Name = ""
	}
	return t
}

// kindOf returns the kind of the type with a name.
func (p *parser) kindOf(name string) int {
	switch {
	case name == "INTEGER":
		return api.TyInt
	case name == "BOOLEAN":
		return api.TyBool
	case p.formals[name]:
		return api.TyFormal
	}
	return api.TyClass
}

// actuals reads the actual types of a class, which may be none.
func (p *parser) actuals() []api.Type {
	var l []api.Type
	p.option("[", func() {
		l = list(p, ",", p.typed)
		p.expect("]")
	})
	return l
}
