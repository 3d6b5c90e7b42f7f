package kind_test

import (
	"slices"
	"testing"

	"cosigner/api"
	"cosigner/kind"
)

// try is one question about a system: types in a class of it.
type try struct {
	l       []api.Class
	c       api.Class
	s, t, u api.Type
}

// tries calls a function with many systems that have no error, and right types in a class of each.
func tries(t *testing.T, seed int64, n int, look func(r chance, x try) bool) {
	t.Helper()
	t.Parallel()
	r := newChance(seed)
	for range n {
		l := r.system(8)
		for range 20 {
			x := try{l: l, c: pick(r, l...)}
			x.s = r.typeIn(l, x.c)
			x.t = r.related(l, x.c, x.s)
			x.u = r.related(l, x.c, x.t)
			if !look(r, x) {
				t.Fatalf("%s, in %s: %s; %s; %s", systemText(l), x.c.Name, typeText(x.s), typeText(x.t), typeText(x.u))
			}
		}
	}
}

func (x try) conforms(t *testing.T, a, b api.Type) bool {
	t.Helper()
	is, err := kind.Conforms(x.l, x.c.Name, a, b)
	if err != api.OK {
		t.Fatalf("%s, in %s: %s; %s: %d", systemText(x.l), x.c.Name, typeText(a), typeText(b), err)
	}
	return is
}

// P5.1: what is right, and what is damaged.
func TestCheckByChance(t *testing.T) {
	r, found := newChance(1), map[api.Errno]int{}
	for range 1500 {
		whole := r.system(10)
		for _, l := range [][]api.Class{whole, r.classes(10), r.damagedSystem(whole), r.damagedSystem(whole), r.damagedSystem(r.damagedSystem(whole))} {
			err, name := kind.Check(l)
			if want, class := checked(l); err != want || name != class {
				t.Fatalf("%s: %d %q, want %d %q", systemText(l), err, name, want, class)
			}
			found[err]++
		}
	}
	for _, err := range []api.Errno{api.OK, api.ErrForm, api.ErrLimit, api.ErrName, api.ErrNone, api.ErrTwice, api.ErrType, api.ErrCycle, api.ErrClash} {
		if found[err] < 10 {
			t.Errorf("%d: %v", err, found)
		}
	}
}

// P5.2: right types, and damaged ones.
func TestRightByChance(t *testing.T) {
	found := map[api.Errno]int{}
	tries(t, 2, 200, func(r chance, x try) bool {
		if kind.Right(x.l, x.c.Name, x.s) != api.OK {
			return false
		}
		for range 3 {
			x.s = r.damaged(x.s)
			err := kind.Right(x.l, x.c.Name, x.s)
			if err != right(x.l, x.c, x.s) {
				t.Error(typeText(x.s), err)
				return false
			}
			found[err]++
		}
		return true
	})
	for _, err := range []api.Errno{api.OK, api.ErrForm, api.ErrLimit, api.ErrNone, api.ErrType} {
		if found[err] < 10 {
			t.Errorf("%d: %v", err, found)
		}
	}
}

// P5.4: by all ways.
func TestInstanceByChance(t *testing.T) {
	several := 0
	tries(t, 3, 200, func(r chance, x try) bool {
		if x.s.Kind != api.TyClass {
			return true
		}
		for _, a := range x.l {
			args, err := kind.Instance(x.l, x.s, a.Name)
			ways := allWays(x.l, x.s.Name, a.Name)
			if err != [...]api.Errno{api.ErrNone, api.OK}[min(len(ways), 1)] {
				return false
			}
			for _, w := range ways {
				if !alike(args, along(x.l, x.s.Args, w)) {
					return false
				}
			}
			if len(ways) > 1 && len(args) > 0 {
				several++
			}
		}
		return true
	})
	if several < 100 {
		t.Error(several)
	}
}

// P5.6 to P5.9
func TestConformsByChance(t *testing.T) {
	rules, several := map[int]int{}, 0
	tries(t, 4, 300, func(r chance, x try) bool {
		if all, err := kind.Supers(x.l, x.c.Name, x.s); err != api.OK || !alike(all, supers(x.l, x.c, x.s)) {
			return false
		}
		for _, pair := range [][2]api.Type{{x.s, x.t}, {x.t, x.s}, {x.s, x.u}, {x.t, x.u}} {
			a, b := pair[0], pair[1]
			why, err := kind.Why(x.l, x.c.Name, a, b)
			if err != api.OK || !alike(why, reason(x.l, x.c, a, b)) || x.conforms(t, a, b) != conforms(x.l, x.c, a, b) {
				t.Error(typeText(a), typeText(b), why)
				return false
			}
			rules[why.Rule]++
			least, err := kind.Joins(x.l, x.c.Name, a, b)
			want := joins(x.l, x.c, a, b)
			if a.Kind == api.TyNone && b.Kind == api.TyNone {
				want = []api.Type{a}
			}
			if err != api.OK || !alike(least, want) {
				t.Error(typeText(a), typeText(b), typesText(least), "want", typesText(want))
				return false
			}
			several += number(len(least) > 1)
		}
		return true
	})
	for _, rule := range []int{api.RuInt, api.RuVoid, api.RuAny, api.RuFormal, api.RuWay, api.NoVoid, api.NoSep, api.NoKind, api.NoClass, api.NoArgs} {
		if rules[rule] < 20 {
			t.Errorf("%d: %v", rule, rules)
		}
	}
	if several < 20 {
		t.Error(several)
	}
}

// P5.10
func TestOrderOfTypes(t *testing.T) {
	chains, both := 0, 0
	tries(t, 5, 300, func(r chance, x try) bool {
		if x.conforms(t, x.s, x.s) != (x.s.Kind != api.TyNone) {
			return false
		}
		st, tu := x.conforms(t, x.s, x.t), x.conforms(t, x.t, x.u)
		if st && tu {
			chains++
		}
		if st && x.conforms(t, x.t, x.s) {
			both++
			return kind.Same(x.s, x.t)
		}
		return !st || !tu || x.conforms(t, x.s, x.u)
	})
	if chains < 500 || both < 50 {
		t.Error(chains, both)
	}
}

// P5.11: formals are replaced by actual types of another class.
func TestReplacedTypesConform(t *testing.T) {
	n := 0
	tries(t, 6, 400, func(r chance, x try) bool {
		if len(x.c.Formals) == 0 || !x.conforms(t, x.s, x.t) {
			return true
		}
		n++
		there := try{l: x.l, c: pick(r, x.l...)}
		args := r.args(x.l, there.c, x.c.Formals, 2)
		return there.conforms(t, kind.Subst(x.c.Formals, args, x.s), kind.Subst(x.c.Formals, args, x.t))
	})
	if n < 300 {
		t.Error(n)
	}
}

// P5.11: types are seen at a target of another class.
func TestSeenTypesConform(t *testing.T) {
	n := 0
	tries(t, 7, 400, func(r chance, x try) bool {
		there := try{l: x.l, c: pick(r, x.l...)}
		target := r.typeIn(x.l, there.c)
		if target.Kind != api.TyClass || !x.conforms(t, x.s, x.t) {
			return true
		}
		s, err := kind.Seen(x.l, target, x.c.Name, x.s)
		if ways := allWays(x.l, target.Name, x.c.Name); len(ways) == 0 {
			return err == api.ErrNone
		}
		u, _ := kind.Seen(x.l, target, x.c.Name, x.t)
		if len(x.c.Formals) > 0 {
			n++
		}
		return err == api.OK && there.conforms(t, s, u)
	})
	if n < 100 {
		t.Error(n)
	}
}

// P5.12
func TestSupersAndInstances(t *testing.T) {
	n := 0
	tries(t, 8, 200, func(r chance, x try) bool {
		all, _ := kind.Supers(x.l, x.c.Name, x.s)
		for _, u := range all {
			for _, a := range x.l {
				args, err := kind.Instance(x.l, u, a.Name)
				if err != api.OK {
					continue
				}
				if want, _ := kind.Instance(x.l, all[0], a.Name); !alike(args, want) {
					return false
				}
				n += len(args)
			}
		}
		if x.t.Kind != api.TyClass || x.t.Name == "ANY" || x.s.Kind == api.TyNone {
			return true
		}
		among := slices.ContainsFunc(all, func(u api.Type) bool {
			return kind.Same(api.Type{Kind: u.Kind, Name: u.Name, Args: u.Args, Void: x.t.Void, Sep: x.t.Sep}, x.t)
		})
		return x.conforms(t, x.s, x.t) == (among && (x.t.Void || !x.s.Void) && (x.t.Sep || !x.s.Sep))
	})
	if n < 500 {
		t.Error(n)
	}
}

// P5.13: reasons that are right, and near to right ones.
func TestReasons(t *testing.T) {
	accepted, other := 0, 0
	tries(t, 9, 200, func(r chance, x try) bool {
		why, _ := kind.Why(x.l, x.c.Name, x.s, x.t)
		if kind.CheckWhy(x.l, x.c.Name, x.s, x.t, why) != api.OK {
			return false
		}
		ways := allWays(x.l, classType(x.c, x.s).Name, x.t.Name)
		for _, near := range r.nearReasons(why, ways) {
			err := kind.CheckWhy(x.l, x.c.Name, x.s, x.t, near)
			hasWay := near.Rule == api.RuWay || near.Rule == api.NoArgs
			isWay := slices.ContainsFunc(ways, func(w []string) bool { return slices.Equal(w, near.Way) })
			want := near.Rule == why.Rule && (hasWay && isWay || !hasWay && len(near.Way) == 0)
			if want != (err == api.OK) || !want && err != api.ErrProof {
				t.Error(why, near, err)
				return false
			}
			if want && (near.Rule < api.NoVoid) != x.conforms(t, x.s, x.t) {
				return false
			}
			if want && !alike(near, why) {
				other++
			}
			accepted += number(want)
		}
		return true
	})
	if accepted < 300 || other < 50 {
		t.Error(accepted, other)
	}
}

// nearReasons returns reasons that have to do with one: with other rules, and with other ways.
func (r chance) nearReasons(why api.Reason, ways [][]string) []api.Reason {
	out := []api.Reason{{Rule: why.Rule}, {Rule: why.Rule, Way: []string{"A"}}, {Rule: pick(r, -1, 0, 6, 10, 16), Way: why.Way}}
	for _, rule := range []int{api.RuInt, api.RuVoid, api.RuAny, api.RuFormal, api.RuWay, api.NoVoid, api.NoSep, api.NoKind, api.NoClass, api.NoArgs} {
		out = append(out, api.Reason{Rule: rule, Way: why.Way}, api.Reason{Rule: rule})
	}
	for _, w := range ways {
		out = append(out, api.Reason{Rule: why.Rule, Way: w}, api.Reason{Rule: why.Rule, Way: w[1:]}, api.Reason{Rule: why.Rule, Way: w[:len(w)-1]},
			api.Reason{Rule: why.Rule, Way: append(slices.Clone(w), w[len(w)-1])})
	}
	return out
}

// P5.14
func TestLeastTypes(t *testing.T) {
	conform := 0
	tries(t, 10, 250, func(r chance, x try) bool {
		least, _ := kind.Joins(x.l, x.c.Name, x.s, x.t)
		back, _ := kind.Joins(x.l, x.c.Name, x.t, x.s)
		if len(least) != len(back) || !containsTypes(back, least) {
			return false
		}
		if x.s.Kind == api.TyNone && x.t.Kind == api.TyNone {
			return true
		}
		for i, j := range least {
			if !x.conforms(t, x.s, j) || !x.conforms(t, x.t, j) {
				return false
			}
			for k, other := range least {
				if i != k && x.conforms(t, other, j) {
					return false
				}
			}
		}
		for range 5 {
			u := pick(r, x.u, r.related(x.l, x.c, x.s), r.related(x.l, x.c, x.t), api.Type{Kind: api.TyInt}, r.typeIn(x.l, x.c))
			conformsTo := func(j api.Type) bool { return x.conforms(t, j, u) }
			if x.conforms(t, x.s, u) && x.conforms(t, x.t, u) && !slices.ContainsFunc(least, conformsTo) {
				return false
			}
		}
		if x.conforms(t, x.s, x.t) && x.s.Kind != api.TyNone {
			conform++
			return len(least) == 1 && kind.Same(least[0], x.t)
		}
		return true
	})
	if conform < 500 {
		t.Error(conform)
	}
}

func containsTypes(l, some []api.Type) bool {
	return !slices.ContainsFunc(some, func(t api.Type) bool {
		return !slices.ContainsFunc(l, func(u api.Type) bool { return kind.Same(t, u) })
	})
}
