package kind

import (
	"slices"

	"cosigner/api"
)

// Joins returns the least types to which two types conform.
func Joins(l []api.Class, class string, a, b api.Type) ([]api.Type, api.Errno) {
	x, err := enter(l, class, a, b)
	if err != api.OK {
		return nil, err
	}
	return each(x.joins(a, b), copyType), api.OK
}

// joins returns the least types to which two right types conform.
func (x scope) joins(a, b api.Type) []api.Type {
	switch {
	case isPlain(a) || isPlain(b) || a.Kind == api.TyNone && b.Kind == api.TyNone:
		if a.Kind != b.Kind {
			return nil
		}
		return []api.Type{a}
	case a.Kind == api.TyNone:
		return []api.Type{with(b, true, b.Sep)}
	case b.Kind == api.TyNone:
		return []api.Type{with(a, true, a.Sep)}
	}
	return each(x.bareJoins(bare(a), bare(b)), func(t api.Type) api.Type {
		return with(t, a.Void || b.Void, a.Sep || b.Sep)
	})
}

// bareJoins returns the least types to which two bare types conform, which are class types or formals. (A formal is none of its own Supers.)
func (x scope) bareJoins(a, b api.Type) []api.Type {
	if Same(a, b) {
		return []api.Type{a}
	}
	others := x.supers(b)
	common := keep(x.supers(a), func(t api.Type) bool {
		return slices.ContainsFunc(others, func(u api.Type) bool { return Same(t, u) })
	})
	var least []api.Type
search:
	for i, t := range common {
		for j, other := range common {
			if i != j && x.conforms(other, t) {
				continue search
			}
		}
		least = append(least, t)
	}
	return least
}
