package sure

import (
	"iter"
	"slices"

	"cosigner/api"
)

// faults yields the faults of a system, in order.
func (s *system) faults() iter.Seq[api.Fault] {
	return func(yield func(api.Fault) bool) {
		for _, c := range s.list {
			for f := range s.faultsOf(c) {
				if !yield(f) {
					return
				}
			}
		}
	}
}

// faultsOf yields the faults of a class.
func (s *system) faultsOf(c api.Class) iter.Seq[api.Fault] {
	return func(yield func(api.Fault) bool) {
		report := func(feature string, isCreation bool, wrong unmet, is bool) bool {
			return !is || yield(api.Fault{Class: c.Name, Feature: feature, Create: isCreation, At: wrong.at, Err: wrong.err})
		}
		itself, is := attempt(func() { s.demandCreate(c) })
		more := report("", false, itself, is)
		invariant := s.lookAt(c, api.Feature{}, creation{}, (*checker).invariant)
		more = more && report("invariant", false, invariant.wrong, invariant.isWrong)
		more = more && all(c.Features, func(f api.Feature) bool {
			seen := s.look(api.Seed{Class: c.Name, Name: f.Name})
			return report(f.Name, false, seen.wrong, seen.isWrong)
		})
		_ = more && all(unique(c.Create), func(name string) bool {
			wrong, is := s.createFault(c.Name, name)
			return report(name, true, wrong, is)
		})
	}
}

// demandCreate looks at the names of a class's creation procedures.
func (s *system) demandCreate(c api.Class) {
	demand(!c.Deferred || len(c.Create) == 0, nowhere, api.ErrState)
	for i, name := range c.Create {
		m := s.members[c.Name][name]
		demand(!slices.Contains(c.Create[:i], name), nowhere, api.ErrTwice)
		demand(m.Kind == api.FeRoutine && m.Type.Kind == api.TyNone, nowhere, api.ErrName)
	}
}

// createFault returns what is wrong with a name of Create as a creation, and whether anything is; what is wrong with its declaration is a fault of this alone.
func (s *system) createFault(class, name string) (unmet, bool) {
	m := s.members[class][name]
	if m.Kind != api.FeRoutine || s.look(m.Impl).isWrong {
		return unmet{}, false
	}
	return s.creationFault(class, m)
}
