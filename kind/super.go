package kind

import (
	"slices"

	"cosigner/api"
)

// Instance returns the actual types that an ancestor's formals have in a type.
func Instance(l []api.Class, t api.Type, ancestor string) ([]api.Type, api.Errno) {
	s, err, _ := systemOf(l)
	if err != api.OK {
		return nil, err
	}
	args, err := s.instanceOrError(t, ancestor)
	return each(args, copyType), err
}

// instanceOrError returns what an ancestor's formals are in whatever type it is.
func (s system) instanceOrError(t api.Type, ancestor string) ([]api.Type, api.Errno) {
	formals, found := s.formals(t.Name)
	if t.Kind != api.TyClass || !found || len(t.Args) != len(formals) {
		return nil, api.ErrType
	}
	args, is := s.instance(t, ancestor)
	if !is {
		return nil, api.ErrNone
	}
	return args, api.OK
}

// Seen returns what a type of a class is at a target.
func Seen(l []api.Class, target api.Type, owner string, t api.Type) (api.Type, api.Errno) {
	s, err, _ := systemOf(l)
	if err != api.OK {
		return api.Type{}, err
	}
	args, err := s.instanceOrError(target, owner)
	if err != api.OK {
		return api.Type{}, err
	}
	x, err := s.enter(owner, t)
	if err != api.OK {
		return api.Type{}, err
	}
	return Subst(x.class.Formals, args, t), api.OK
}

// Supers returns the class types to which a type conforms.
func Supers(l []api.Class, class string, t api.Type) ([]api.Type, api.Errno) {
	x, err := enter(l, class, t)
	if err != api.OK {
		return nil, err
	}
	return each(x.supers(t), copyType), api.OK
}

// supers returns the class types to which a right type conforms, with its own Void and Sep.
func (x scope) supers(t api.Type) []api.Type {
	if t.Kind != api.TyClass && t.Kind != api.TyFormal {
		return nil
	}
	own := x.classType(t)
	names := slices.Clone(x.above[own.Name])
	slices.Reverse(names)
	return each(append(names, everything), func(name string) api.Type {
		super := with(classNamed(name), t.Void, t.Sep)
		super.Args, _ = x.instance(own, name)
		return super
	})
}
