package kind_test

import (
	"math/rand"
	"slices"

	"cosigner/api"
)

// chance makes systems and types; the chance is the test's own, and the same each time.
type chance struct{ *rand.Rand }

func newChance(seed int64) chance {
	return chance{rand.New(rand.NewSource(seed))}
}

func pick[T any](r chance, l ...T) T {
	return l[r.Intn(len(l))]
}

// early returns an element of a list, more often one of the first.
func early[T any](r chance, l []T) T {
	return l[min(r.Intn(len(l)), r.Intn(len(l)))]
}

// system returns a system of at most n classes, in any order, that has no error.
func (r chance) system(n int) []api.Class {
	l := r.classes(n)
	for {
		err, name := checked(l)
		if err == api.OK {
			return l
		}
		r.mend(l, name)
	}
}

// mend gives a class other actual types, or one parent less.
func (r chance) mend(l []api.Class, name string) {
	at := slices.IndexFunc(l, func(c api.Class) bool { return c.Name == name })
	c := &l[at]
	if r.Intn(8) == 0 {
		c.Parents = c.Parents[:len(c.Parents)-1]
	}
	r.instantiate(l, c)
}

// classes returns a system in which nothing but the actual types may be wrong.
func (r chance) classes(n int) []api.Class {
	var l []api.Class
	for i, at := range r.Perm(n)[:1+r.Intn(n)] {
		c := api.Class{Name: string(rune('A' + at))}
		c.Formals = slices.Clone([]api.Formal{{Name: "X"}, {Name: "Y"}, {Name: "Z"}}[:pick(r, 0, 0, 0, 1, 1, 1, 2, 2, 3)])
		for _, p := range r.Perm(i)[:min(i, pick(r, 0, 1, 1, 2, 2, 3, 4))] {
			c.Parents = append(c.Parents, api.Parent{Name: l[p].Name})
		}
		l = append(l, c)
	}
	r.Shuffle(len(l), func(i, j int) { l[i], l[j] = l[j], l[i] })
	bounds := []string{"ANY"}
	for _, c := range l {
		if len(c.Formals) == 0 {
			bounds = append(bounds, c.Name)
		}
	}
	for i := range l {
		for j := range l[i].Formals {
			l[i].Formals[j].Bound = early(r, bounds)
		}
	}
	for i := range l {
		r.instantiate(l, &l[i])
	}
	return l
}

// instantiate gives the parents of a class actual types.
func (r chance) instantiate(l []api.Class, c *api.Class) {
	for i := range c.Parents {
		c.Parents[i].Args = r.args(l, *c, classOf(l, c.Parents[i].Name).Formals, pick(r, 0, 0, 0, 1, 2))
	}
}

// args returns right actual types for formals, which are nested a little.
func (r chance) args(l []api.Class, c api.Class, formals []api.Formal, deep int) []api.Type {
	var out []api.Type
	for _, f := range formals {
		out = append(out, r.actual(l, c, f.Bound, deep))
	}
	return out
}

// actual returns a right actual type for a formal with a bound, in a class.
func (r chance) actual(l []api.Class, c api.Class, bound string, deep int) api.Type {
	under := func(name string) bool { return bound == "ANY" || isUnder(l, name, bound) }
	var names []string
	for _, f := range c.Formals {
		if under(f.Bound) {
			names = append(names, f.Name)
		}
	}
	formals := len(names)
	for _, d := range l {
		if under(d.Name) && (deep > 0 || len(d.Formals) == 0) {
			names = append(names, d.Name)
		}
	}
	if bound == "ANY" {
		names = append(names, "ANY")
	}
	name := early(r, names)
	if slices.Contains(names[:formals], name) {
		return api.Type{Kind: api.TyFormal, Name: name}
	}
	return api.Type{Kind: api.TyClass, Name: name, Args: r.args(l, c, classOf(l, name).Formals, deep-1)}
}

// typeIn returns a right type in a class.
func (r chance) typeIn(l []api.Class, c api.Class) api.Type {
	if r.Intn(6) == 0 {
		return api.Type{Kind: pick(r, api.TyNone, api.TyInt, api.TyBool)}
	}
	return r.marked(r.actual(l, c, "ANY", r.Intn(3)))
}

// marked returns a class type or a formal that may be detachable, or separate.
func (r chance) marked(t api.Type) api.Type {
	t.Void, t.Sep = r.Intn(2) == 0, r.Intn(3) == 0 && t.Kind == api.TyClass
	return t
}

// related returns a right type in a class that has to do with another one: often one to which this conforms.
func (r chance) related(l []api.Class, c api.Class, t api.Type) api.Type {
	all := supers(l, c, t)
	if len(all) == 0 || r.Intn(4) == 0 {
		return r.typeIn(l, c)
	}
	u := early(r, append([]api.Type{t}, all...))
	if formals := classOf(l, u.Name).Formals; u.Kind == api.TyClass && r.Intn(3) == 0 {
		u.Args = r.args(l, c, formals, 1)
	}
	return r.marked(u)
}

// damaged returns a type of which something is changed, which may make it wrong.
func (r chance) damaged(t api.Type) api.Type {
	t = copied(t)
	at := &t
	for len(at.Args) > 0 && r.Intn(3) > 0 {
		at = &at.Args[r.Intn(len(at.Args))]
	}
	switch r.Intn(7) {
	case 0:
		at.Kind = r.Intn(7) - 1
	case 1:
		at.Name = pick(r, "A", "B", "C", "X", "Y", "ANY", "NONE", "INTEGER", "")
	case 2:
		at.Void = !at.Void
	case 3:
		at.Sep = !at.Sep
	case 4:
		at.Args = append(at.Args, typed(pick(r, "A", "ANY", "'X", "INTEGER", "detachable B")))
	case 5:
		at.Args = at.Args[:len(at.Args)/2]
	case 6:
		*at = typed(pick(r, "A", "'X", "'Y", "ANY", "INTEGER", "BOOLEAN", "Void", "A [B]", nested("A", pick(r, api.MaxNest-1, api.MaxNest, api.MaxNest+1), "B")))
	}
	return t
}

// damagedSystem returns a system of which something is changed.
func (r chance) damagedSystem(l []api.Class) []api.Class {
	l = copied(l)
	c := &l[r.Intn(len(l))]
	if len(c.Parents) > 0 && r.Intn(3) > 0 {
		p := &c.Parents[r.Intn(len(c.Parents))]
		switch r.Intn(8) {
		case 0:
			p.Name = pick(r, l...).Name
		case 1:
			p.Args = append(p.Args, typed("ANY"))
		case 2:
			p.Args = p.Args[:len(p.Args)/2]
		default:
			if len(p.Args) > 0 {
				at := r.Intn(len(p.Args))
				p.Args[at] = r.damaged(p.Args[at])
			}
		}
		return l
	}
	if len(c.Formals) > 0 && r.Intn(3) > 0 {
		f := &c.Formals[r.Intn(len(c.Formals))]
		*pick(r, &f.Name, &f.Bound) = pick(r, "A", "B", "C", "D", "X", "Y", "Z", "x", "", "ANY", "NONE")
		return l
	}
	switch r.Intn(3) {
	case 0:
		c.Name = pick(r, "A", "B", "X", "x")
	case 1:
		c.Formals = append(c.Formals, api.Formal{Name: pick(r, "X", "U", "V", "W"), Bound: pick(r, "ANY", "A", "B")})
	case 2:
		c.Formals = c.Formals[:len(c.Formals)/2]
	}
	return l
}
