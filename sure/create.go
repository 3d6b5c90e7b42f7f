package sure

import (
	"slices"

	"cosigner/api"
)

// needsOf returns the attributes of a class that need setting.
func (s *system) needsOf(class string) []string {
	needed := keep(s.flats[class].Members, func(m api.Member) bool { return m.Kind == api.FeAttr && needsSetting(m.Type) })
	return each(needed, func(m api.Member) string { return m.Name })
}

// creationOf returns how features of a class are looked at that create objects of a descendant.
func (s *system) creationOf(created, class string) creation {
	k := creation{s.needsOf(created), map[string]string{}}
	for _, m := range s.flats[class].Members {
		k.names[m.Name] = s.version(created, class, m)
	}
	return k
}

// creationFault returns why a feature cannot create objects of a class, and whether it cannot; its declaration has no fault.
func (s *system) creationFault(class string, m api.Member) (unmet, bool) {
	if s.asksFirst(class, m) {
		return unmet{nowhere, api.ErrVoid}, true
	}
	f, _ := s.declaration(m.Impl)
	seen := s.lookAt(s.classes[m.Impl.Class], f, s.creationOf(class, m.Impl.Class), (*checker).declared)
	return seen.wrong, seen.isWrong
}

// asksFirst tells whether an object that is created is asked for ahead of the body, by a precondition or for old.
func (s *system) asksFirst(class string, m api.Member) bool {
	for _, g := range m.Pre {
		asks := s.asker(class, g.Class, m)
		if slices.ContainsFunc(g.Clauses, func(x api.Clause) bool { return asks(x.Expr) }) {
			return true
		}
	}
	for _, g := range m.Post {
		asks := s.asker(class, g.Class, m)
		for p := range clauseNodes(g.Clauses) {
			if p.expr.Kind == api.ExOld && asks(p.expr) {
				return true
			}
		}
	}
	return false
}

// asker returns a function that tells whether an expression of a clause, which has the words of a class, asks for an object of a descendant that a feature creates.
func (s *system) asker(created, class string, m api.Member) func(api.Expr) bool {
	k := s.creationOf(created, class)
	for _, v := range m.Args {
		delete(k.names, v.Name) // it is an argument, whatever else has this name
	}
	return func(e api.Expr) bool {
		for p := range exprNodes(e) {
			isNamed := p.expr.Kind == api.ExCall && p.expr.N == 0
			if p.expr.Kind == api.ExCurrent || isNamed && slices.Contains(k.needs, k.names[p.expr.Name]) {
				return true
			}
		}
		return false
	}
}
