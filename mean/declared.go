package mean

import "cosigner/api"

// declared is a declared type in the words of a class: a type (none: nil), and what the formals in it stand for, if it is that of a feature of a target. These are not put into the type: what is asked for is its class alone, and all together it may have far too many parts.
type declared struct {
	is *api.Type
	at *actuals
}

// actuals are the types for which the formals of a class stand.
type actuals struct {
	formals []api.Formal
	types   []api.Type
	at      *actuals
}

// resolved returns a type that is not a formal which stands for another type.
func (t declared) resolved() declared {
	for t.is != nil && t.is.Kind == api.TyFormal && t.at != nil {
		i := t.at.place(t.is.Name)
		if i < 0 {
			break
		}
		t = declared{&t.at.types[i], t.at.at}
	}
	return t
}

// place returns which one of the formals has a name; -1 if none has.
func (a *actuals) place(formal string) int {
	for i, f := range a.formals {
		if f.Name == formal {
			return i
		}
	}
	return -1
}

// targetClass returns the class of a target with a declared type (which is resolved) in the words of a class; nil if there is none.
func (s *system) targetClass(words *class, t declared) *class {
	switch {
	case t.is == nil:
		return nil
	case t.is.Kind == api.TyClass:
		return s.classes[t.is.Name]
	case t.is.Kind == api.TyFormal:
		formal := find(words.Formals, func(f *api.Formal) bool { return f.Name == t.is.Name })
		if formal != nil {
			return s.classes[formal.Bound]
		}
	}
	return nil
}

// typeAt returns the declared type of a member of a class at a target of this class.
func (c *class) typeAt(target declared, name string) declared {
	if len(c.Formals) != len(target.is.Args) {
		return declared{}
	}
	t := declared{&c.members[name].Type, &actuals{c.Formals, target.is.Args, target.at}}
	return t.resolved()
}
