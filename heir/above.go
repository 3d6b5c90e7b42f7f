package heir

import (
	"slices"

	"cosigner/api"
)

// Above returns the ancestors of a class, those of its parents ahead, and the class itself last.
func Above(l []api.Class, c string) ([]string, api.Errno) {
	g, err := enter(l, c)
	if err != api.OK {
		return nil, err
	}
	return g.above(c), api.OK
}

// Below returns the descendants of a class, in the order of the system.
func Below(l []api.Class, c string) ([]string, api.Errno) {
	g, err := enter(l, c)
	if err != api.OK {
		return nil, err
	}
	return keep(each(l, className), func(heir string) bool { return g.is(heir, c) }), api.OK
}

// Is tells whether a is an ancestor of c.
func Is(l []api.Class, c, a string) (bool, api.Errno) {
	g, err := enter(l, c, a)
	if err != api.OK {
		return false, err
	}
	return g.is(c, a), api.OK
}

func (g graph) is(c, a string) bool {
	return slices.Contains(g.above(c), a)
}

// Way returns the first one of the shortest ways from c to a.
func Way(l []api.Class, c, a string) ([]string, api.Errno) {
	g, err := enter(l, c, a)
	if err != api.OK {
		return nil, err
	}
	for x := range g.steps(c) {
		if x.class == a {
			return x.way(), api.OK
		}
	}
	return nil, api.ErrNone
}

// CheckWay tells whether a list of names is a way from c to a.
func CheckWay(l []api.Class, c, a string, way []string) api.Errno {
	g, err := enter(l, c, a)
	if err != api.OK {
		return err
	}
	if len(way) == 0 || way[0] != c || way[len(way)-1] != a || !g.chained(way) {
		return api.ErrProof
	}
	return api.OK
}

// Ways returns how many ways there are from c to a.
func Ways(l []api.Class, c, a string) (int, api.Errno) {
	g, err := enter(l, c, a)
	if err != api.OK {
		return 0, err
	}
	ways := map[string]int{a: 1}
	for _, x := range g.above(c) {
		for p := range g.parents(x) {
			ways[x] += ways[p]
		}
	}
	return ways[c], api.OK
}
