package heir

import (
	"slices"

	"cosigner/api"
)

// Order returns all classes, each behind its ancestors, and those whose names come first as early as this allows.
func Order(l []api.Class) ([]string, api.Errno) {
	g, err := enter(l)
	if err != api.OK {
		return nil, err
	}
	var out []string
	for rest := sortedNames(l); len(rest) > 0; {
		i := slices.IndexFunc(rest, func(c string) bool { return g.isFree(c, rest) })
		out = append(out, rest[i])
		rest = slices.Delete(rest, i, i+1)
	}
	return out, api.OK
}

// Levels returns the classes by the lengths of their longest ways.
func Levels(l []api.Class) ([][]string, api.Errno) {
	g, err := enter(l)
	if err != api.OK {
		return nil, err
	}
	var out [][]string
	for rest := sortedNames(l); len(rest) > 0; {
		level := keep(rest, func(c string) bool { return g.isFree(c, rest) })
		rest = keep(rest, func(c string) bool { return !slices.Contains(level, c) })
		out = append(out, level)
	}
	return out, api.OK
}

func sortedNames(l []api.Class) []string {
	names := each(l, className)
	slices.Sort(names)
	return names
}

// isFree tells whether a class has no parent among these classes.
func (g graph) isFree(c string, classes []string) bool {
	for p := range g.parents(c) {
		if slices.Contains(classes, p) {
			return false
		}
	}
	return true
}

// Least returns the common ancestors of two classes that are no proper ancestors of another one.
func Least(l []api.Class, a, b string) ([]string, api.Errno) {
	g, err := enter(l, a, b)
	if err != api.OK {
		return nil, err
	}
	common := keep(g.above(a), func(c string) bool { return g.is(b, c) })
	isAboveOther := func(c string) bool {
		return slices.ContainsFunc(common, func(other string) bool { return other != c && g.is(other, c) })
	}
	least := keep(common, func(c string) bool { return !isAboveOther(c) })
	slices.Sort(least)
	return least, api.OK
}

// Needless returns the links whose parent is an ancestor of the class without the link as well.
func Needless(l []api.Class) ([]api.Link, api.Errno) {
	g, err := enter(l)
	if err != api.OK {
		return nil, err
	}
	return keep(g.links, func(x api.Link) bool {
		rest := keep(g.links, func(y api.Link) bool { return y != x })
		return graphOf(rest).is(x.Class, x.Parent)
	}), api.OK
}
