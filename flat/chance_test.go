package flat_test

import (
	"math/rand"
	"slices"
	"strings"

	"cosigner/api"
	"cosigner/flat"
)

// lasting is of how many conflicts one stays, if none should.
const lasting = 1 << 40

// chance makes systems; the chance is the test's own, and the same each time.
type chance struct {
	*rand.Rand
	l     []api.Class // the classes so far
	wrong int         // of so many conflicts of a class one stays
	plain bool        // routines have no arguments and no results
}

func newChance(seed int64, wrong int) *chance {
	return &chance{Rand: rand.New(rand.NewSource(seed)), wrong: wrong}
}

func pick[T any](r *chance, l ...T) T {
	return l[r.Intn(len(l))]
}

// some returns each element of a list with a chance of one in n.
func some[T any](r *chance, n int, l []T) []T {
	var out []T
	for _, x := range l {
		if r.Intn(n) == 0 {
			out = append(out, x)
		}
	}
	return out
}

func (r *chance) name() string {
	return pick(r, "a", "b", "c", "d", "e", "f")
}

// system returns at most n classes, in any order.
func (r *chance) system(n int) []api.Class {
	r.l, r.plain = nil, r.Intn(2) == 0
	for _, name := range r.Perm(n)[:1+r.Intn(n)] {
		r.l = append(r.l, r.mended(string(rune('A'+name))))
	}
	r.Shuffle(len(r.l), func(i, j int) { r.l[i], r.l[j] = r.l[j], r.l[i] })
	return r.l
}

// mended returns a class whose conflicts have been mended, but for one now and then.
func (r *chance) mended(name string) api.Class {
	for {
		c := r.class(name)
		for range 30 {
			x, is, _ := flat.Clash(append(slices.Clone(r.l), c))
			if !is || x.Class != name || r.Intn(r.wrong) == 0 || isRare(x.Kind) && r.wrong < lasting && r.Intn(3) == 0 {
				return c
			}
			r.mend(&c, x)
		}
	}
}

// isRare tells of which conflicts more stay, as there are few of them.
func isRare(kind int) bool {
	return kind == api.CnBoth || kind == api.CnBare || kind == api.CnMany || kind == api.CnApart
}

func (r *chance) class(name string) api.Class {
	c := api.Class{Name: name, Deferred: r.Intn(3) > 0}
	c.Formals = slices.Clone([]api.Formal{{Name: "G", Bound: "ANY"}, {Name: "H", Bound: "ANY"}}[:pick(r, 0, 0, 0, 1, 1, 2)])
	for _, at := range r.Perm(len(r.l))[:min(len(r.l), pick(r, 0, 0, 1, 1, 2, 2, 2, 3))] {
		c.Parents = append(c.Parents, r.parent(r.l[at], c.Formals))
	}
	used := map[string]bool{}
	for range pick(r, 0, 1, 1, 2, 3) {
		f := r.feature(c.Formals)
		if !used[f.Name] {
			c.Features = append(c.Features, f)
		}
		used[f.Name] = true
	}
	if r.Intn(3) == 0 {
		c.Invariant = r.clauses()
	}
	return c
}

func (r *chance) parent(above api.Class, formals []api.Formal) api.Parent {
	p := api.Parent{Name: above.Name}
	for range above.Formals {
		p.Args = append(p.Args, r.typed(formals, 2))
	}
	var here []string
	for _, f := range measureOf(r.l).members(above.Name) {
		name := f.Name
		if r.Intn(4) == 0 {
			name = r.name()
			p.Rename = append(p.Rename, api.Pair{From: f.Name, To: name})
		}
		here = append(here, name)
	}
	r.Shuffle(len(here), func(i, j int) { here[i], here[j] = here[j], here[i] })
	p.Undefine, p.Redefine, p.Select = some(r, 7, here), some(r, 7, here), some(r, 9, here)
	if r.Intn(12) == 0 {
		list := pick(r, &p.Undefine, &p.Redefine, &p.Select)
		*list = append(*list, r.name())
	}
	if r.Intn(30) == 0 && !slices.ContainsFunc(p.Rename, func(x api.Pair) bool { return x.From == "z" }) {
		p.Rename = append(p.Rename, api.Pair{From: "z", To: r.name()})
	}
	return p
}

func (r *chance) typed(formals []api.Formal, n int) api.Type {
	t := api.Type{Kind: api.TyClass, Name: pick(r, "X", "Y"), Void: r.Intn(4) == 0, Sep: r.Intn(6) == 0}
	switch k := r.Intn(4); {
	case k == 0:
		return api.Type{Kind: api.TyInt}
	case k == 1 && len(formals) > 0:
		return api.Type{Kind: api.TyFormal, Name: formals[r.Intn(len(formals))].Name, Void: t.Void}
	case k == 2 && n > 0:
		t.Args = append(t.Args, r.typed(formals, n-1))
	}
	return t
}

func (r *chance) clauses() []api.Clause {
	yes := api.Clause{Tag: "t", Expr: api.Expr{Kind: api.ExBool, N: 1}}
	no := api.Clause{Tag: "t", Expr: api.Expr{Kind: api.ExBool}}
	return pick(r, nil, []api.Clause{yes}, []api.Clause{no}, []api.Clause{yes, no}, []api.Clause{no, yes})
}

func (r *chance) feature(formals []api.Formal) api.Feature {
	f := api.Feature{Kind: pick(r, api.FeAttr, api.FeRoutine, api.FeRoutine, api.FeRoutine, api.FeDeferred, api.FeDeferred), Name: r.name()}
	f.Clients = pick(r, []string{"ANY"}, []string{"NONE"}, []string{"A"}, []string{"C", "X"}, []string{"B", "ANY"}, nil)
	f.Require, f.Ensure = r.clauses(), r.clauses()
	if f.Kind == api.FeAttr {
		f.Type = r.typed(formals, 1)
		return f
	}
	if r.plain {
		return f
	}
	if r.Intn(6) == 0 {
		f.Args = []api.Var{{Name: pick(r, "x", "y"), Type: r.typed(formals, 1)}}
	}
	if r.Intn(4) == 0 || len(formals) > 0 && r.Intn(2) == 0 {
		f.Type = r.typed(formals, 1)
	}
	return f
}

// at returns where a parent stands in a class.
func at(c *api.Class, name string) *api.Parent {
	return &c.Parents[slices.IndexFunc(c.Parents, func(p api.Parent) bool { return p.Name == name })]
}

func drop(l *[]string, name string) {
	*l = slices.DeleteFunc(*l, func(x string) bool { return x == name })
}

// rename gives a feature of a parent a name.
func rename(p *api.Parent, from, to string) {
	p.Rename = slices.DeleteFunc(p.Rename, func(x api.Pair) bool { return x.From == from })
	p.Rename = append(p.Rename, api.Pair{From: from, To: to})
}

// mend changes a class so that a conflict goes, or another one comes.
func (r *chance) mend(c *api.Class, x api.Conflict) {
	switch x.Kind {
	case api.CnLost:
		p := at(c, x.A.Parent)
		p.Rename = slices.DeleteFunc(p.Rename, func(y api.Pair) bool { return y.From == x.Name && r.Intn(4) > 0 })
		drop(&p.Undefine, x.Name)
		drop(&p.Redefine, x.Name)
		drop(&p.Select, x.Name)
	case api.CnBoth:
		p := at(c, x.A.Parent)
		drop(pick(r, &p.Undefine, &p.Redefine), x.Name)
	case api.CnUndo:
		drop(&at(c, x.A.Parent).Undefine, x.Name)
	case api.CnSelect:
		drop(&at(c, x.A.Parent).Select, x.Name)
	case api.CnSame:
		rename(at(c, x.B.Parent), pick(r, x.A, x.B).Name, r.name())
	case api.CnTwo:
		p := at(c, x.A.Parent)
		list := pick(r, &p.Undefine, &p.Redefine, &p.Redefine)
		*list = append(*list, x.Name)
	case api.CnApart:
		i := r.Intn(len(c.Parents))
		c.Parents = slices.Delete(c.Parents, i, i+1)
	default:
		r.mendFeature(c, x)
	}
}

func (r *chance) mendFeature(c *api.Class, x api.Conflict) {
	m := measureOf(append(slices.Clone(r.l), *c))
	own := slices.IndexFunc(c.Features, func(f api.Feature) bool { return f.Name == x.Name })
	switch x.Kind {
	case api.CnIdle:
		drop(&at(c, x.A.Parent).Redefine, x.Name)
		if r.Intn(3) > 0 {
			at(c, x.A.Parent).Redefine = append(at(c, x.A.Parent).Redefine, x.Name)
			r.declare(c, m, x.Name)
		}
	case api.CnFixed:
		c.Features = slices.Delete(c.Features, own, own+1)
	case api.CnBare:
		c.Features[own].Kind = api.FeRoutine
	case api.CnTypes:
		if own >= 0 {
			h, _ := m.come(*c, x.Name, x.B)
			c.Features[own].Args, c.Features[own].Type = h.args, h.typed
			if c.Features[own].Kind == api.FeAttr && (h.typed.Kind == api.TyNone || len(h.args) > 0) {
				c.Features[own].Kind = api.FeRoutine
			}
		} else {
			rename(at(c, x.B.Parent), x.B.Name, r.name())
		}
	case api.CnMany:
		switch p := at(c, x.B.Parent); r.Intn(3) {
		case 0:
			p.Undefine = append(p.Undefine, x.Name)
		case 1:
			rename(p, x.B.Name, r.name())
		default:
			r.declare(c, m, x.Name)
		}
	case api.CnSeed:
		s := api.Seed{Class: x.A.Parent, Name: x.A.Name}
		name := pick(r, x.Name, x.Other)
		for _, h := range m.under(*c, name) {
			if slices.Contains(h.there.Seeds, s) {
				p := at(c, h.parent.Name)
				p.Select = append(p.Select, name)
				return
			}
		}
		at(c, c.Parents[0].Name).Select = nil
	case api.CnOpen:
		c.Deferred = true
		if r.Intn(2) == 0 {
			c.Deferred = false
			r.declare(c, m, x.Name)
		}
	}
}

// declare adds a declaration with a body over inherited features, if there is none.
func (r *chance) declare(c *api.Class, m *measure, name string) {
	come := m.under(*c, name)
	if slices.ContainsFunc(c.Features, func(f api.Feature) bool { return f.Name == name }) || len(come) == 0 {
		c.Deferred = true
		return
	}
	f := r.feature(c.Formals)
	f.Kind, f.Name, f.Args, f.Type = api.FeRoutine, name, come[0].args, come[0].typed
	c.Features = append(c.Features, f)
}

// changed returns a conflict of which a part is another one.
func (r *chance) changed(x api.Conflict) api.Conflict {
	capital := func() string { return pick(r, "A", "B", "C", "D", "E", "F", "") }
	small := func() string { return pick(r, r.name(), r.name(), r.name(), "z", "") }
	switch r.Intn(9) {
	case 0:
		x.Kind = r.Intn(17) - 1
	case 1:
		x.Class = capital()
	case 2:
		x.Name = small()
	case 3:
		x.Other = small()
	case 4:
		x.A.Parent = capital()
	case 5:
		x.A.Name = small()
	case 6:
		x.B.Parent = capital()
	case 7:
		x.B.Name = small()
	default:
		x.A, x.B = x.B, x.A
		x.Name, x.Other = strings.TrimSpace(x.Other), x.Name
	}
	return x
}
