package kind

import "cosigner/api"

// scope is a class of a system, in which types stand.
type scope struct {
	system
	class api.Class
}

// enter returns a class, in which all of the types must be right.
func (s system) enter(class string, types ...api.Type) (scope, api.Errno) {
	here := scope{s, s.classes[class]}
	if !has(s.classes, class) {
		return scope{}, api.ErrNone
	}
	for _, t := range types {
		if err := here.rightError(t); err != api.OK {
			return scope{}, err
		}
	}
	return here, api.OK
}

// bound returns the class that is the bound of a formal, and whether there is this formal.
func (x scope) bound(formal string) (string, bool) {
	for _, f := range x.class.Formals {
		if f.Name == formal {
			return f.Bound, true
		}
	}
	return "", false
}

// classType returns the class type of a type: of a formal its bound.
func (x scope) classType(t api.Type) api.Type {
	if t.Kind != api.TyFormal {
		return t
	}
	bound, _ := x.bound(t.Name)
	return classNamed(bound)
}

// rightError returns the first error of a type.
func (x scope) rightError(t api.Type) api.Errno {
	return attempt(func() {
		demand(!isDeeper(t, api.MaxNest), api.ErrLimit)
		x.demandRight(t)
	})
}

// argError returns the first error of an actual type for a formal with a bound.
func (x scope) argError(arg api.Type, bound string) api.Errno {
	return attempt(func() {
		demand(!isDeeper(arg, api.MaxNest), api.ErrLimit)
		x.demandArg(arg, bound)
	})
}

// attempt returns the error of the first demand that is not met; it ends the look at a type, however deep it is in there.
func attempt(look func()) (err api.Errno) {
	defer func() {
		if unmet := recover(); unmet != nil {
			err = unmet.(api.Errno)
		}
	}()
	look()
	return api.OK
}

func demand(is bool, err api.Errno) {
	if !is {
		panic(err)
	}
}

func (x scope) demandRight(t api.Type) {
	switch t.Kind {
	case api.TyInt, api.TyBool, api.TyNone:
		demand(Same(t, api.Type{Kind: t.Kind}), api.ErrForm)
	case api.TyFormal:
		_, found := x.bound(t.Name)
		demand(len(t.Args) == 0 && !t.Sep, api.ErrForm)
		demand(found, api.ErrNone)
	case api.TyClass:
		formals, found := x.formals(t.Name)
		demand(found, api.ErrNone)
		demand(len(t.Args) == len(formals), api.ErrType)
		for i, arg := range t.Args {
			x.demandArg(arg, formals[i].Bound)
		}
	default:
		panic(api.ErrForm)
	}
}

// demandArg looks at an actual type. Its bound has no formals, so that it conforms to it by its class alone.
func (x scope) demandArg(arg api.Type, bound string) {
	demand(arg.Kind == api.TyClass || arg.Kind == api.TyFormal, api.ErrType)
	demand(!arg.Void && !arg.Sep, api.ErrType)
	x.demandRight(arg)
	demand(x.is(x.classType(arg).Name, bound), api.ErrType)
}
