package heir

import (
	"slices"

	"cosigner/api"
)

// Touched returns the classes, in the order of the system, that have an ancestor with one of the changed names.
func Touched(l []api.Class, changed []string) ([]string, api.Errno) {
	if len(changed) > 2*api.MaxClasses {
		return nil, api.ErrLimit
	}
	g, err := enter(l)
	if err != api.OK {
		return nil, err
	}
	isChanged := func(c string) bool { return slices.Contains(changed, c) }
	return keep(each(l, className), func(c string) bool { return slices.ContainsFunc(g.above(c), isChanged) }), api.OK
}

// Add returns the system with one more class, its last one.
func Add(l []api.Class, c api.Class) ([]api.Class, api.Errno) {
	if err, _ := Check(l); err != api.OK {
		return nil, err
	}
	more := slices.Concat(l, []api.Class{c})
	if err, _ := Check(more); err != api.OK {
		return nil, err
	}
	return each(more, copyClass), api.OK
}

// Without returns the system without a class, which must be no parent of another one.
func Without(l []api.Class, c string) ([]api.Class, api.Errno) {
	g, err := enter(l, c)
	if err != api.OK {
		return nil, err
	}
	if slices.ContainsFunc(g.links, func(x api.Link) bool { return x.Parent == c }) {
		return nil, api.ErrClash
	}
	rest := keep(l, func(x api.Class) bool { return x.Name != c })
	return each(rest, copyClass), api.OK
}
