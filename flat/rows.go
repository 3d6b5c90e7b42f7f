package flat

import (
	"iter"
	"slices"

	"cosigner/api"
)

// The methods of this file are the rows of the table of conflicts. Each one yields all conflicts of its kind, in order.

func (f *form) lost() iter.Seq[api.Conflict] {
	return f.atParents(api.CnLost, func(p api.Parent) []string {
		old := keep(each(p.Rename, oldName), func(name string) bool { return !has(f.above[p.Name].members, name) })
		anew := keep(slices.Concat(p.Undefine, p.Redefine, p.Select), func(name string) bool { return !f.comesFrom(p, name) })
		return append(old, anew...)
	})
}

func (f *form) both() iter.Seq[api.Conflict] {
	return f.atParents(api.CnBoth, func(p api.Parent) []string {
		return keep(p.Undefine, func(name string) bool { return slices.Contains(p.Redefine, name) })
	})
}

func (f *form) same(yield func(api.Conflict) bool) {
	for _, p := range f.class.Parents {
		for _, name := range f.names {
			for a, b := range pairs(f.from(p, name)) {
				if !yield(api.Conflict{Kind: api.CnSame, Class: f.class.Name, Name: name, A: a.from, B: b.from}) {
					return
				}
			}
		}
	}
}

func (f *form) undo(yield func(api.Conflict) bool) {
	for _, p := range f.class.Parents {
		for _, name := range p.Undefine {
			for _, x := range f.from(p, name) {
				if x.was != api.FeRoutine && !yield(api.Conflict{Kind: api.CnUndo, Class: f.class.Name, Name: name, A: x.from}) {
					return
				}
			}
		}
	}
}

func (f *form) idle() iter.Seq[api.Conflict] {
	return f.atParents(api.CnIdle, func(p api.Parent) []string {
		return keep(p.Redefine, func(name string) bool { return !has(f.own, name) })
	})
}

func (f *form) fixed() iter.Seq[api.Conflict] {
	return f.overDeclared(api.CnFixed, func(_ api.Feature, x coming) bool { return x.Kind == api.FeAttr })
}

func (f *form) two() iter.Seq[api.Conflict] {
	return f.overDeclared(api.CnTwo, func(_ api.Feature, x coming) bool { return isEffective(x) && !x.redefined })
}

func (f *form) bare() iter.Seq[api.Conflict] {
	return f.overDeclared(api.CnBare, func(own api.Feature, x coming) bool {
		return own.Kind == api.FeDeferred && isEffective(x)
	})
}

func (f *form) types(yield func(api.Conflict) bool) {
	for _, name := range f.names {
		for _, x := range f.differing(name) {
			first := api.Origin{Name: name}
			if !has(f.own, name) {
				first = f.comes[name][0].from
			}
			if !yield(api.Conflict{Kind: api.CnTypes, Class: f.class.Name, Name: name, A: first, B: x.from}) {
				return
			}
		}
	}
}

// differing returns what comes under a name with other types than the class declares, or than the first one that comes has.
func (f *form) differing(name string) []coming {
	come := f.comes[name]
	if own, declared := f.own[name]; declared {
		return keep(come, func(x coming) bool {
			return !sameVars(own.Args, x.Args) || hasResult(own.Type) != hasResult(x.Type)
		})
	}
	first, others := come[0], come[1:]
	return keep(others, func(x coming) bool { return !sameTypes(first.Member, x.Member) })
}

func (f *form) many(yield func(api.Conflict) bool) {
	for _, name := range f.names {
		if has(f.own, name) {
			continue
		}
		for a, b := range pairs(keep(f.comes[name], isEffective)) {
			if !isSameFeature(a, b) && !yield(api.Conflict{Kind: api.CnMany, Class: f.class.Name, Name: name, A: a.from, B: b.from}) {
				return
			}
		}
	}
}

func (f *form) seed(yield func(api.Conflict) bool) {
	for _, s := range f.sortedSeeds() {
		if _, found := f.selected(s); found {
			continue
		}
		for a, b := range pairs(f.seeds[s]) {
			if !yield(f.overSeed(api.CnSeed, s, a, b)) {
				return
			}
		}
	}
}

func (f *form) chosen() iter.Seq[api.Conflict] {
	isAlone := func(s api.Seed) bool { return len(f.seeds[s]) == 1 }
	return f.atParents(api.CnSelect, func(p api.Parent) []string {
		return keep(p.Select, func(name string) bool {
			seeds := f.members[name].Seeds
			return f.comesFrom(p, name) && len(keep(seeds, isAlone)) == len(seeds)
		})
	})
}

func (f *form) open(yield func(api.Conflict) bool) {
	if f.class.Deferred {
		return
	}
	for _, name := range f.deferred() {
		if !yield(api.Conflict{Kind: api.CnOpen, Class: f.class.Name, Name: name}) {
			return
		}
	}
}

func (f *form) apart(yield func(api.Conflict) bool) {
	for _, s := range f.sortedSeeds() {
		for a, b := range pairs(f.seeds[s]) {
			if !sameTypes(f.members[a], f.members[b]) && !yield(f.overSeed(api.CnApart, s, a, b)) {
				return
			}
		}
	}
}

// atParents yields conflicts about names that are found at each parent; such a conflict's origin has the name itself.
func (f *form) atParents(kind int, found func(api.Parent) []string) iter.Seq[api.Conflict] {
	return func(yield func(api.Conflict) bool) {
		for _, p := range f.class.Parents {
			for _, name := range found(p) {
				if !yield(api.Conflict{Kind: kind, Class: f.class.Name, Name: name, A: api.Origin{Parent: p.Name, Name: name}}) {
					return
				}
			}
		}
	}
}

// overDeclared yields conflicts of declarations with features that are inherited under their names.
func (f *form) overDeclared(kind int, isWrong func(own api.Feature, x coming) bool) iter.Seq[api.Conflict] {
	return func(yield func(api.Conflict) bool) {
		for _, name := range f.names {
			own, declared := f.own[name]
			for _, x := range f.comes[name] {
				if declared && isWrong(own, x) && !yield(api.Conflict{Kind: kind, Class: f.class.Name, Name: name, A: x.from}) {
					return
				}
			}
		}
	}
}

// overSeed returns a conflict between two names of a seed.
func (f *form) overSeed(kind int, s api.Seed, name, other string) api.Conflict {
	return api.Conflict{Kind: kind, Class: f.class.Name, Name: name, Other: other, A: api.Origin{Parent: s.Class, Name: s.Name}}
}

// from returns what comes from a parent under a name.
func (f *form) from(p api.Parent, name string) []coming {
	return keep(f.comes[name], func(x coming) bool { return x.from.Parent == p.Name })
}

func (f *form) comesFrom(p api.Parent, name string) bool {
	return len(f.from(p, name)) > 0
}
