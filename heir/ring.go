package heir

import (
	"maps"
	"slices"

	"cosigner/api"
)

// Ring returns the first one of the shortest rings, if there is a ring.
func Ring(l []api.Class) ([]string, bool) {
	g := graphOf(linksOf(l))
	heirs := slices.Sorted(maps.Keys(g.first))
	if !g.visited(heirs).ring {
		return nil, false
	}
	var best *step
search:
	for _, c := range heirs {
		for x := range g.steps(c) {
			if best != nil && x.ahead >= best.ahead {
				continue search // what is found from here on is no shorter
			}
			for p := range g.parents(x.class) {
				if p == c {
					best = x
				}
			}
		}
	}
	return best.way(), true
}

// CheckRing tells whether a list of names is a ring.
func CheckRing(l []api.Class, ring []string) api.Errno {
	if len(l) > api.MaxClasses || len(ring) > api.MaxClasses {
		return api.ErrLimit
	}
	if len(ring) == 0 || repeats(ring) {
		return api.ErrProof
	}
	round := append(slices.Clone(ring), ring[0])
	if !graphOf(linksOf(l)).chained(round) {
		return api.ErrProof
	}
	return api.OK
}
