package mean

import (
	"iter"

	"cosigner/api"
)

// require looks at the preconditions, one group of which must hold.
func (r *routine) require() {
	if r.off[api.FaPre] {
		return
	}
groups:
	for _, g := range r.member.Pre {
		for class, e := range clauses(g) {
			if !r.clause(class, r.caller).truth(e) {
				continue groups
			}
		}
		return
	}
	r.happens(api.FaPre, r.caller)
}

// remember reckons what old stands ahead of, and returns what finds it.
func (r *routine) remember() func(*api.Expr) api.Val {
	values := map[*api.Expr]api.Val{}
	if !r.off[api.FaPost] {
		for _, x := range r.oldsOf(r.member) {
			c := r.clause(x.class, r.caller)
			for _, e := range x.olds {
				need(hasExprForm(e))
				values[e] = c.value(&e.Kids[0])
			}
		}
	}
	return func(e *api.Expr) api.Val { return values[e] }
}

// ensure looks at the postconditions.
func (r *routine) ensure(old func(*api.Expr) api.Val) {
	if r.off[api.FaPost] {
		return
	}
	for class, e := range clauses(r.member.Post...) {
		c := r.clause(class, blamed(api.SdSupplier, r.by))
		c.old = old
		if r.result != nil {
			c.result = &variable{value: r.result.value}
			if m := r.speaksOf(class, r.member); m != nil {
				c.result.typed.is = &m.Type
			}
		}
		if !c.truth(e) {
			c.raise(api.FaPost)
		}
	}
}

// clause returns where a clause of a routine is carried out, in the words of a class.
func (r *routine) clause(class string, guilt api.Blame) *frame {
	c := &frame{run: r.run, at: r.at, words: r.classes[class], by: r.by, guilt: guilt}
	spoken := r.speaksOf(class, r.member)
	for i, v := range r.member.Args {
		arg := variable{value: r.args[i]}
		if spoken != nil {
			arg.typed.is = &spoken.Args[i].Type
		}
		c.bind(v.Name, arg)
	}
	return c
}

// invariant calls the invariant of an object, for which someone is to blame.
func (f *frame) invariant(at int, guilt api.Blame) {
	groups := f.objects[at].class.flat.Invariant
	if f.off[api.FaInv] || len(groups) == 0 {
		return
	}
	f.enter(guilt)
	defer func() { f.leave() }()
	for class, e := range clauses(groups...) {
		c := &frame{run: f.run, at: at, words: f.classes[class], by: api.Seed{Class: guilt.Class, Name: guilt.Name}, guilt: guilt}
		if !c.truth(e) {
			c.raise(api.FaInv)
		}
	}
}

// clauses yields the expressions of groups, each with the class in whose words it is.
func clauses(groups ...api.Group) iter.Seq2[string, *api.Expr] {
	return func(yield func(string, *api.Expr) bool) {
		for _, g := range groups {
			for i := range g.Clauses {
				if !yield(g.Class, &g.Clauses[i].Expr) {
					return
				}
			}
		}
	}
}

// oldIn is all old within a clause, in order, but for such that stands within another one.
type oldIn struct {
	class string
	olds  []*api.Expr
}

// oldsOf returns all old within the postconditions of a member. (They are looked for once: nothing is counted there that would end a long search again and again.)
func (s *system) oldsOf(m *api.Member) []oldIn {
	return remembered(s.olds, m, func() []oldIn {
		var all []oldIn
		for class, e := range clauses(m.Post...) {
			all = append(all, oldIn{class, olds(e)})
		}
		return keep(all, func(x oldIn) bool { return len(x.olds) > 0 })
	})
}

func olds(e *api.Expr) []*api.Expr {
	if e.Kind == api.ExOld {
		return []*api.Expr{e}
	}
	var all []*api.Expr
	for i := range e.Kids {
		all = append(all, olds(&e.Kids[i])...)
	}
	return all
}
