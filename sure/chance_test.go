package sure_test

import (
	"fmt"
	"math/rand"
	"slices"

	"cosigner/api"
	"cosigner/flat"
	"cosigner/kind"
)

// chance makes systems; the chance is the test's own, and the same each time.
type chance struct{ *rand.Rand }

func newChance(seed int64) chance {
	return chance{rand.New(rand.NewSource(seed))}
}

func pick[T any](r chance, l ...T) T {
	return l[r.Intn(len(l))]
}

// one tells, once in n times, that something is so.
func (r chance) one(n int) bool { return r.Intn(n) == 0 }

// system returns a well-founded system of at most n classes, most of whose features have no fault.
func (r chance) system(n int) []api.Class {
	var l []api.Class
	for l == nil || !isFounded(l) {
		l = r.headers(n)
		for i := range l {
			for !r.declare(l, i) {
				if r.one(6) {
					l[i].Parents = nil
				}
			}
		}
	}
	for i := range l {
		r.fill(l, i)
	}
	r.Shuffle(len(l), func(i, j int) { l[i], l[j] = l[j], l[i] })
	return l
}

// headers returns classes with formals and parents alone.
func (r chance) headers(n int) []api.Class {
	var l []api.Class
	for i := range 1 + r.Intn(n) {
		c := api.Class{Name: string(rune('A' + i))}
		if r.one(3) {
			c.Formals = append(c.Formals, api.Formal{Name: "G", Bound: "ANY"})
		}
		for _, p := range r.Perm(i)[:min(i, pick(r, 0, 0, 1, 1, 1, 2))] {
			c.Parents = append(c.Parents, api.Parent{Name: l[p].Name})
		}
		l = append(l, c)
	}
	for i := range l {
		for j := range l[i].Formals {
			b := pick(r, l...)
			if len(b.Formals) == 0 && r.one(2) {
				l[i].Formals[j].Bound = b.Name
			}
		}
	}
	for i := range l {
		r.instantiate(l, i)
	}
	return l
}

// instantiate gives the parents of a class actual types, or takes them.
func (r chance) instantiate(l []api.Class, i int) {
	c := &l[i]
	for range 20 {
		for j := range c.Parents {
			c.Parents[j].Args = nil
			if len(classOf(l, c.Parents[j].Name).Formals) > 0 {
				t := r.reference(l, *c, 2)
				t.Void, t.Sep = false, false
				c.Parents[j].Args = []api.Type{t}
			}
		}
		if err, name := kind.Check(l); err == api.OK || name > c.Name {
			return
		}
	}
	c.Parents = nil
}

// reference returns a type of objects, which may be not right.
func (r chance) reference(l []api.Class, c api.Class, deep int) api.Type {
	if len(c.Formals) > 0 && r.one(4) {
		return api.Type{Kind: api.TyFormal, Name: "G", Void: r.one(3)}
	}
	t := api.Type{Kind: api.TyClass, Name: pick(r, l...).Name, Void: r.one(4), Sep: r.one(6)}
	if r.one(10) {
		t.Name = "ANY"
	}
	if len(classOf(l, t.Name).Formals) > 0 {
		arg := api.Type{Kind: api.TyClass, Name: "ANY"}
		if deep > 0 {
			arg = r.reference(l, c, deep-1)
		}
		arg.Void, arg.Sep = false, false
		t.Args = []api.Type{arg}
	}
	return t
}

// typeIn returns a right type.
func (r chance) typeIn(l []api.Class, c api.Class) api.Type {
	for range 20 {
		t := r.reference(l, c, 2)
		if kind.Right(l, c.Name, t) == api.OK && !r.one(3) {
			return t
		}
	}
	return api.Type{Kind: pick(r, api.TyInt, api.TyInt, api.TyBool)}
}

// vars returns variables with names of their own.
func (r chance) vars(l []api.Class, c api.Class, letter string, n int) []api.Var {
	var out []api.Var
	for i := range n {
		out = append(out, api.Var{Name: fmt.Sprint(letter, i), Type: r.typeIn(l, c)})
	}
	return out
}

func (r chance) clients(l []api.Class) []string {
	out := []string{pick(r, "ANY", "ANY", "ANY", "ANY", "NONE", pick(r, l...).Name)}
	if r.one(5) {
		out = append(out, pick(r, l...).Name)
	}
	return out
}

// declare gives a class features, without bodies as yet, and tells whether they fit those of its parents.
func (r chance) declare(l []api.Class, at int) bool {
	c := &l[at]
	c.Features, c.Create, c.Deferred = nil, nil, false
	letter := string(rune('a' + at))
	var needed []api.Var
	for i := range r.Intn(4) {
		f := api.Feature{Kind: api.FeAttr, Name: fmt.Sprint(letter, "a", i), Type: r.typeIn(l, *c), Clients: r.clients(l)}
		if f.Type.Kind != api.TyNone {
			c.Features = append(c.Features, f)
		}
		if needs(f.Type) {
			needed = append(needed, api.Var{Name: fmt.Sprint("v", i), Type: f.Type})
		}
	}
	for i := range r.Intn(4) {
		f := api.Feature{Kind: api.FeRoutine, Name: fmt.Sprint(letter, i), Args: r.vars(l, *c, "v", r.Intn(3)), Clients: r.clients(l)}
		if r.one(2) {
			f.Type = r.typeIn(l, *c)
		} else if r.one(2) {
			f.Args = needed
		}
		if r.one(8) {
			f.Kind = api.FeDeferred
		}
		c.Features = append(c.Features, f)
	}
	for i := range c.Parents {
		r.adapt(l, at, i)
	}
	r.Shuffle(len(c.Features), func(i, j int) { c.Features[i], c.Features[j] = c.Features[j], c.Features[i] })
	x, is, err := flat.Clash(l[:at+1])
	if is && x.Kind == api.CnOpen {
		c.Deferred = true
		_, is, err = flat.Clash(l[:at+1])
	}
	if is || err != api.OK {
		return false
	}
	r.creators(l, at)
	return true
}

// adapt renames and redeclares some of what comes from a parent.
func (r chance) adapt(l []api.Class, at, parent int) {
	c := &l[at]
	p := &c.Parents[parent]
	p.Rename, p.Undefine, p.Redefine, p.Select = nil, nil, nil, nil
	f, err := flat.FlatOf(l[:at], p.Name)
	if err != api.OK {
		return
	}
	formals := classOf(l, p.Name).Formals
	for _, m := range f.Members {
		name := m.Name
		if r.one(6) {
			name = fmt.Sprint("r", at, m.Name)
			p.Rename = append(p.Rename, api.Pair{From: m.Name, To: name})
			if r.one(2) {
				p.Select = append(p.Select, name)
			}
		}
		isThere := slices.ContainsFunc(c.Features, func(x api.Feature) bool { return x.Name == name })
		if m.Kind == api.FeAttr || isThere || !r.one(3) {
			continue
		}
		x := api.Feature{Kind: api.FeRoutine, Name: name, Clients: r.clients(l)}
		for _, v := range m.Args {
			t, _ := flat.Subst(v.Type, formals, p.Args)
			x.Args = append(x.Args, api.Var{Name: v.Name, Type: t})
		}
		x.Type, _ = flat.Subst(m.Type, formals, p.Args)
		if m.Kind == api.FeRoutine {
			p.Redefine = append(p.Redefine, name)
		} else if len(x.Args) == 0 && x.Type.Kind != api.TyNone && r.one(3) {
			x.Kind = api.FeAttr
		}
		if x.Type.Void && r.one(2) {
			x.Type.Void = false
		}
		c.Features = append(c.Features, x)
	}
}

// creators chooses creation procedures.
func (r chance) creators(l []api.Class, at int) {
	f, _ := flat.FlatOf(l[:at+1], l[at].Name)
	for _, m := range f.Members {
		if m.Kind == api.FeRoutine && m.Type.Kind == api.TyNone && r.one(2) && !l[at].Deferred {
			l[at].Create = append(l[at].Create, m.Name)
		}
	}
	r.Shuffle(len(l[at].Create), func(i, j int) {
		l[at].Create[i], l[at].Create[j] = l[at].Create[j], l[at].Create[i]
	})
}

// fill gives the features of a class bodies and assertions.
func (r chance) fill(l []api.Class, at int) {
	flats, err := flat.Flats(l)
	if err != api.OK {
		panic(fmt.Sprint(err, textOf(l)))
	}
	c := &l[at]
	m := &maker{chance: r, measure: measure{l, flats}, class: *c, slip: pick(r, 0, 60, 200)}
	m.j = &judge{l: l, flats: flats, class: *c}
	m.fits = map[string]bool{}
	m.seen = map[string]sight{}
	if r.one(2) {
		m.begin(&api.Feature{}, "invariant")
		c.Invariant = m.clauses(1 + r.Intn(2))
	}
	for i := range c.Features {
		f := &c.Features[i]
		if f.Kind != api.FeAttr {
			m.routine(f)
		}
	}
}
