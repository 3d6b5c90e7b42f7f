package kind

import (
	"iter"
	"slices"

	"cosigner/api"
	"cosigner/heir"
)

// everything is the class to which each class type and each formal conforms; it is none of a system.
const everything = "ANY"

// system is classes whose headers have no error.
type system struct {
	classes map[string]api.Class
	above   map[string][]string // the ancestors of each class, in the order of heir.Above
	actual  map[link][]api.Type // what an ancestor's formals are in a class, in the words of this one
}

// link is a class and one of its ancestors.
type link struct{ class, ancestor string }

// systemOf returns a system; or the first error of its headers, and the class where it is.
func systemOf(l []api.Class) (system, api.Errno, string) {
	if err, class := heir.Check(l); err != api.OK {
		return system{}, err, class
	}
	names, _ := heir.Order(l)
	s := system{map[string]api.Class{}, map[string][]string{}, map[link][]api.Type{}}
	for _, c := range l {
		s.classes[c.Name] = c
	}
	order := each(names, func(name string) api.Class { return s.classes[name] })
	for _, c := range order {
		s.ascend(c)
	}
	if err, class := first(look{l, s.formalsError}, look{l, s.parentsError}, look{order, s.inherit}); err != api.OK {
		return system{}, err, class
	}
	return s, api.OK, ""
}

// look finds the first error of a class, for each one of a list.
type look struct {
	classes []api.Class
	at      func(api.Class) api.Errno
}

// first returns the first error that is found, and the class where it is; each look ends before the next one begins.
func first(looks ...look) (api.Errno, string) {
	for _, k := range looks {
		for _, c := range k.classes {
			if err := k.at(c); err != api.OK {
				return err, c.Name
			}
		}
	}
	return api.OK, ""
}

// ascend notes the ancestors of a class; those of its parents must be noted already. (heir.Above would check the whole system anew for each class.)
func (s system) ascend(c api.Class) {
	var above []string
	for _, p := range c.Parents {
		above = append(above, keep(s.above[p.Name], func(a string) bool { return !slices.Contains(above, a) })...)
	}
	s.above[c.Name] = append(above, c.Name)
}

// formalsError returns the first error of a class's formals.
func (s system) formalsError(c api.Class) api.Errno {
	if len(c.Formals) > api.MaxFormals {
		return api.ErrLimit
	}
	for i, f := range c.Formals {
		isTwice := slices.ContainsFunc(c.Formals[:i], func(before api.Formal) bool { return before.Name == f.Name })
		formals, known := s.formals(f.Bound)
		switch {
		case !isName(f.Name):
			return api.ErrName
		case isTwice || has(s.classes, f.Name):
			return api.ErrTwice
		case !known:
			return api.ErrNone
		case len(formals) > 0:
			return api.ErrType
		}
	}
	return api.OK
}

// isName tells whether a class may have this name.
func isName(name string) bool {
	err, _ := heir.Check([]api.Class{{Name: name}})
	return err == api.OK
}

// formals returns those of a class, which may be ANY, and whether there is this class.
func (s system) formals(class string) ([]api.Formal, bool) {
	c, found := s.classes[class]
	return c.Formals, found || class == everything
}

// parentsError returns the first error of the actual types of a class's parents.
func (s system) parentsError(c api.Class) api.Errno {
	here := scope{s, c}
	for _, p := range c.Parents {
		formals := s.classes[p.Name].Formals
		if len(p.Args) != len(formals) {
			return api.ErrType
		}
		for i, arg := range p.Args {
			if err := here.argError(arg, formals[i].Bound); err != api.OK {
				return err
			}
		}
	}
	return api.OK
}

// inherit notes what the formals of a class's ancestors are in it; those of its parents' ancestors must be noted already.
func (s system) inherit(c api.Class) api.Errno {
	for ancestor, args := range s.inherited(c) {
		at := link{c.Name, ancestor}
		before, known := s.actual[at]
		switch {
		case count(args) > api.MaxKindParts:
			return api.ErrLimit
		case known && !sameTypes(before, args):
			return api.ErrClash
		}
		s.actual[at] = args
	}
	s.actual[link{c.Name, c.Name}] = each(c.Formals, formalType)
	return api.OK
}

// inherited yields the ancestors of each parent of a class, with what their formals are by this parent.
func (s system) inherited(c api.Class) iter.Seq2[string, []api.Type] {
	return func(yield func(string, []api.Type) bool) {
		for _, p := range c.Parents {
			replace := replacer(s.classes[p.Name].Formals, p.Args)
			for _, a := range s.above[p.Name] {
				if !yield(a, each(s.actual[link{p.Name, a}], replace)) {
					return
				}
			}
		}
	}
}

// is tells whether a class is an ancestor of another one; all are under ANY.
func (s system) is(class, ancestor string) bool {
	return ancestor == everything || slices.Contains(s.above[class], ancestor)
}

// instance returns what an ancestor's formals are in a class type, and whether it is one.
func (s system) instance(t api.Type, ancestor string) ([]api.Type, bool) {
	args := each(s.actual[link{t.Name, ancestor}], replacer(s.classes[t.Name].Formals, t.Args))
	return args, s.is(t.Name, ancestor)
}
