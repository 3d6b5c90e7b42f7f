package sure_test

import (
	"slices"

	"cosigner/api"
	"cosigner/flat"
	"cosigner/heir"
	"cosigner/kind"
)

// measure is a system that is judged; it is well-founded.
type measure struct {
	l     []api.Class
	flats []api.Flat
}

// measureOf returns a system, or the error of one that is not well-founded.
func measureOf(l []api.Class) (measure, api.Errno) {
	if err, _ := heir.Check(l); err != api.OK {
		return measure{}, err
	}
	if err, _ := kind.Check(l); err != api.OK {
		return measure{}, err
	}
	flats, err := flat.Flats(l)
	return measure{l, flats}, err
}

func (m measure) class(name string) api.Class {
	return classOf(m.l, name)
}

// judged looks at a feature that a class declares; made is a class that is created by it, or empty.
func (m measure) judged(class, feature, made string) (*judge, *bad) {
	c := m.class(class)
	i := slices.IndexFunc(c.Features, func(f api.Feature) bool { return f.Name == feature })
	j := &judge{l: m.l, flats: m.flats, class: c, feature: c.Features[i], made: made}
	if made != "" {
		for _, name := range m.needs(made) {
			j.rest = append(j.rest, "."+name)
		}
	}
	return j, j.whole()
}

func (m measure) flat(class string) api.Flat {
	return m.flats[slices.IndexFunc(m.flats, func(f api.Flat) bool { return f.Name == class })]
}

func (m measure) member(class, name string) (api.Member, bool) {
	for _, x := range m.flat(class).Members {
		if x.Name == name {
			return x, true
		}
	}
	return api.Member{}, false
}

// needs is Needs.
func (m measure) needs(class string) []string {
	var out []string
	for _, x := range m.flat(class).Members {
		if x.Kind == api.FeAttr && needs(x.Type) {
			out = append(out, x.Name)
		}
	}
	return out
}

// makes is Makes of a member that is a routine with a body, and whose declaration has no fault.
func (m measure) makes(class string, x api.Member) *bad {
	for _, g := range x.Pre {
		for _, c := range g.Clauses {
			if m.touches(class, g.Class, x, c.Expr, false) {
				return &bad{-1, api.ErrVoid}
			}
		}
	}
	for _, g := range x.Post {
		for _, c := range g.Clauses {
			if m.touches(class, g.Class, x, c.Expr, true) {
				return &bad{-1, api.ErrVoid}
			}
		}
	}
	_, wrong := m.judged(x.Impl.Class, x.Impl.Name, class)
	return wrong
}

// touches tells whether an expression has Current or an attribute that needs setting; within old alone, if it is so wanted.
func (m measure) touches(made, class string, x api.Member, e api.Expr, olds bool) bool {
	if e.Kind == api.ExOld && olds {
		return m.touches(made, class, x, e, false)
	}
	isArg := slices.ContainsFunc(x.Args, func(v api.Var) bool { return v.Name == e.Name })
	if !olds && e.Kind == api.ExCall && e.N == 0 && !isArg {
		a, is := m.member(class, e.Name)
		to, err := flat.Version(m.l, made, class, e.Name)
		if is && a.Kind == api.FeAttr && err == api.OK && slices.Contains(m.needs(made), to) {
			return true
		}
	}
	if !olds && e.Kind == api.ExCurrent {
		return true
	}
	return slices.ContainsFunc(e.Kids, func(k api.Expr) bool { return m.touches(made, class, x, k, olds) })
}

// faults is Faults.
func (m measure) faults() []api.Fault {
	var out []api.Fault
	for _, c := range m.l {
		add := func(feature string, create bool, wrong *bad) {
			if wrong != nil {
				out = append(out, api.Fault{Class: c.Name, Feature: feature, Create: create, At: wrong.at, Err: wrong.err})
			}
		}
		if err := m.itself(c); err != api.OK {
			add("", false, &bad{-1, err})
		}
		add("invariant", false, (&judge{l: m.l, flats: m.flats, class: c}).invariant())
		for _, f := range c.Features {
			_, wrong := m.judged(c.Name, f.Name, "")
			add(f.Name, false, wrong)
		}
		for i, name := range c.Create {
			x, is := m.member(c.Name, name)
			if !is || x.Kind != api.FeRoutine || slices.Contains(c.Create[:i], name) {
				continue
			}
			if _, wrong := m.judged(x.Impl.Class, x.Impl.Name, ""); wrong == nil {
				add(name, true, m.makes(c.Name, x))
			}
		}
	}
	return out
}

// itself is the fault of a class itself.
func (m measure) itself(c api.Class) api.Errno {
	if c.Deferred && len(c.Create) > 0 {
		return api.ErrState
	}
	for i, name := range c.Create {
		if slices.Contains(c.Create[:i], name) {
			return api.ErrTwice
		}
		if x, is := m.member(c.Name, name); !is || x.Kind != api.FeRoutine || x.Type.Kind != api.TyNone {
			return api.ErrName
		}
	}
	return api.OK
}

// uses is Uses of what has been judged.
func (j *judge) uses() []api.Seed {
	var out []api.Seed
	for _, n := range j.notes {
		if n.use.Class != "" && !slices.Contains(out, n.use) {
			out = append(out, n.use)
		}
	}
	return out
}

// names is Names of what has been judged.
func (j *judge) names() []api.Var {
	out := slices.Concat(j.feature.Args, j.feature.Locals)
	for _, n := range j.notes {
		if n.binds.Name != "" {
			out = append(out, n.binds)
		}
	}
	return out
}
