package flat_test

import (
	"reflect"
	"slices"
	"strings"
	"testing"

	"cosigner/api"
	"cosigner/flat"
	"cosigner/heir"
)

// lawful goes through systems by chance that have no conflict.
func lawful(t *testing.T, seed int64, many int, law func(r *chance, l []api.Class, flats map[string]api.Flat)) {
	t.Helper()
	t.Parallel()
	r := newChance(seed, lasting)
	for many > 0 {
		l := r.system(6)
		all, err := flat.Flats(l)
		if err != api.OK {
			continue
		}
		many--
		flats := map[string]api.Flat{}
		for _, f := range all {
			flats[f.Name] = f
		}
		law(r, l, flats)
	}
}

func isAbove(t *testing.T, l []api.Class, c, a string) bool {
	t.Helper()
	is, err := heir.Is(l, c, a)
	if err != api.OK {
		t.Fatal(err)
	}
	return is
}

func member(f api.Flat, name string) api.Member {
	return f.Members[slices.IndexFunc(f.Members, func(m api.Member) bool { return m.Name == name })]
}

// P4.8
func TestLawOfSeeds(t *testing.T) {
	several := 0
	lawful(t, 48, 300, func(r *chance, l []api.Class, flats map[string]api.Flat) {
		for _, c := range l {
			for _, a := range l {
				if !isAbove(t, l, c.Name, a.Name) {
					continue
				}
				for _, m := range flats[a.Name].Members {
					for _, s := range m.Seeds {
						all, err1 := flat.Names(l, c.Name, s)
						one, err2 := flat.Selected(l, c.Name, s)
						if err1 != api.OK || err2 != api.OK || len(all) == 0 || !slices.Contains(all, one) {
							t.Fatal(l, c.Name, s, all, err1, one, err2)
						}
						several += min(len(all)-1, 1)
					}
				}
			}
			for _, m := range flats[c.Name].Members {
				one, _ := flat.Selected(l, c.Name, m.Seeds[0])
				if v, err := flat.Version(l, c.Name, c.Name, m.Name); one == m.Name && (v != one || err != api.OK) {
					t.Fatal(l, c.Name, m.Name, v, err)
				}
			}
		}
	})
	if several < 50 {
		t.Error("only", several, "seeds had several names")
	}
}

// P4.8: by way of a class between.
func TestLawOfVersions(t *testing.T) {
	count := 0
	lawful(t, 481, 150, func(r *chance, l []api.Class, flats map[string]api.Flat) {
		for _, c := range l {
			for _, b := range l {
				for _, d := range l {
					if c.Name == b.Name || b.Name == d.Name || !isAbove(t, l, b.Name, c.Name) || !isAbove(t, l, d.Name, b.Name) {
						continue
					}
					for _, m := range flats[c.Name].Members {
						between, err := flat.Version(l, b.Name, c.Name, m.Name)
						if err != api.OK || !slices.Equal(member(flats[b.Name], between).Seeds, m.Seeds) {
							continue
						}
						count++
						v1, err1 := flat.Version(l, d.Name, c.Name, m.Name)
						v2, err2 := flat.Version(l, d.Name, b.Name, between)
						if v1 != v2 || err1 != err2 {
							t.Fatal(l, c.Name, m.Name, b.Name, between, d.Name, v1, v2)
						}
					}
				}
			}
		}
	})
	if count < 100 {
		t.Error("only", count, "versions")
	}
}

// P4.9: what comes along two ways without a change is one feature.
func TestLawOfSharing(t *testing.T) {
	count := 0
	lawful(t, 49, 400, func(r *chance, l []api.Class, flats map[string]api.Flat) {
		top := pick(r, l...)
		more := append(slices.Clone(l), between("Y", top, top.Name), between("X", top, top.Name), between("Z", top, "X", "Y"))
		// Of the names of a seed the same one stays selected (unless these are also names of another seed, and not selected there).
		more[len(more)-1].Parents[0].Select = selectedOf(l, flats[top.Name])
		if x, is, _ := flat.Clash(more); is && x.Kind == api.CnSeed {
			return
		}
		count++
		if f := flatOf(t, more, "Z"); !alike(f.Members, flats[top.Name].Members) {
			t.Fatal(more, f)
		}
	})
	if count < 350 {
		t.Error("only", count, "classes come along two ways")
	}
}

// P4.9: if it is renamed on one of them, it is two.
func TestLawOfRenaming(t *testing.T) {
	count := 0
	lawful(t, 491, 400, func(r *chance, l []api.Class, flats map[string]api.Flat) {
		top := pick(r, l...)
		if len(flats[top.Name].Members) == 0 {
			return
		}
		m := pick(r, flats[top.Name].Members...)
		chosen := selectedOf(l, flats[top.Name])
		more := append(slices.Clone(l), between("Y", top, top.Name), between("X", top, top.Name), between("Z", top, "Y", "X"))
		more[len(l)].Parents[0].Rename = []api.Pair{{From: m.Name, To: "zz"}}
		if len(chosen) == 0 {
			more[len(l)+2].Parents[1].Select = []string{m.Name}
		} else {
			more[len(l)+2].Parents[1].Select = chosen
		}
		f, err := flat.FlatOf(more, "Z")
		if err != api.OK {
			return // another seed of the feature is selected under another name
		}
		count++
		one, other := member(f, m.Name), member(f, "zz")
		if len(f.Members) != len(flats[top.Name].Members)+1 || !slices.Equal(one.Seeds, m.Seeds) || !slices.Equal(other.Seeds, m.Seeds) || one.Impl != m.Impl || other.Impl != m.Impl {
			t.Fatal(more, f)
		}
	})
	if count < 200 {
		t.Error("only", count, "features are renamed")
	}
}

// between returns a class that has parents with the same formals, and changes nothing.
func between(name string, top api.Class, parents ...string) api.Class {
	c := api.Class{Name: name, Deferred: true, Formals: top.Formals}
	var args []api.Type
	for _, f := range top.Formals {
		args = append(args, api.Type{Kind: api.TyFormal, Name: f.Name})
	}
	for _, p := range parents {
		c.Parents = append(c.Parents, api.Parent{Name: p, Args: args})
	}
	return c
}

// selectedOf returns the selected names of those seeds that have several ones.
func selectedOf(l []api.Class, f api.Flat) []string {
	var out []string
	for _, m := range f.Members {
		for _, s := range m.Seeds {
			all, _ := flat.Names(l, f.Name, s)
			if one, _ := flat.Selected(l, f.Name, s); len(all) > 1 && one == m.Name {
				out = append(out, one)
			}
		}
	}
	return out
}

// P4.10
func TestLawOfContracts(t *testing.T) {
	count := 0
	lawful(t, 410, 300, func(r *chance, l []api.Class, flats map[string]api.Flat) {
		for _, c := range l {
			for _, d := range l {
				if c.Name == d.Name || !isAbove(t, l, d.Name, c.Name) {
					continue
				}
				if !includes(flats[d.Name].Invariant, flats[c.Name].Invariant) {
					t.Fatal(l, c.Name, d.Name)
				}
				for _, m := range flats[c.Name].Members {
					isAlone := func(s api.Seed) bool {
						all, _ := flat.Names(l, d.Name, s)
						return len(all) == 1
					}
					if slices.ContainsFunc(m.Seeds, func(s api.Seed) bool { return !isAlone(s) }) {
						continue
					}
					count++
					name, err := flat.Version(l, d.Name, c.Name, m.Name)
					if err != api.OK {
						t.Fatal(l, d.Name, c.Name, m.Name, err)
					}
					if v := member(flats[d.Name], name); !includes(v.Pre, m.Pre) || !includes(v.Post, m.Post) {
						t.Fatal(l, d.Name, c.Name, m.Name, v)
					}
				}
			}
		}
	})
	if count < 500 {
		t.Error("only", count, "versions")
	}
}

// includes tells whether each group of some is one of all.
func includes(all, some []api.Group) bool {
	for _, g := range some {
		if !slices.ContainsFunc(all, func(x api.Group) bool { return alike(x, g) }) {
			return false
		}
	}
	return true
}

// P4.11
func TestLawOfConflicts(t *testing.T) {
	r := newChance(411, 6)
	for range 600 {
		l := r.system(5)
		x, is, err := flat.Clash(l)
		f, err2 := flat.Flats(l)
		if err != api.OK || is != (err2 == api.ErrClash) || is != (err2 != api.OK) || is && len(f) > 0 {
			t.Fatal(l, x, is, err, err2)
		}
		if is && flat.CheckClash(l, x) != api.OK {
			t.Fatal(l, x)
		}
		for range 20 {
			y := r.changed(r.changed(x))
			if flat.CheckClash(l, y) == api.OK && !is {
				t.Fatal(l, y)
			}
		}
	}
}

// P4.12: the order of classes, and further ones.
func TestLawOfOrder(t *testing.T) {
	lawful(t, 412, 200, func(r *chance, l []api.Class, flats map[string]api.Flat) {
		all, _ := flat.Flats(l)
		other := slices.Clone(l)
		r.Shuffle(len(other), func(i, j int) { other[i], other[j] = other[j], other[i] })
		if got, err := flat.Flats(other); err != api.OK || !alike(got, all) {
			t.Fatal(l, other, err)
		}
		r.l = l
		more := r.mended(pick(r, "AA", "Z"))
		got, err := flat.Flats(append(other, more))
		got = slices.DeleteFunc(got, func(f api.Flat) bool { return f.Name == more.Name })
		if err != api.OK || !alike(got, all) {
			t.Fatal(l, more, err)
		}
	})
}

// P4.12: parents in another order.
func TestLawOfParents(t *testing.T) {
	count := 0
	lawful(t, 4121, 1500, func(r *chance, l []api.Class, flats map[string]api.Flat) {
		other := copied(l)
		for _, c := range other {
			r.Shuffle(len(c.Parents), func(i, j int) { c.Parents[i], c.Parents[j] = c.Parents[j], c.Parents[i] })
		}
		all, err := flat.Flats(other)
		if err != api.OK {
			t.Fatal(l, other, err)
		}
		for _, f := range all {
			for i, m := range f.Members {
				want := copied(flats[f.Name].Members[i])
				if !alike(m, want) {
					count++
				}
				if m.Kind == api.FeDeferred {
					m.Impl, want.Impl = api.Seed{}, api.Seed{}
				}
				m.Clients, want.Clients = nil, nil
				for _, groups := range [][]api.Group{m.Pre, m.Post, want.Pre, want.Post} {
					slices.SortFunc(groups, func(a, b api.Group) int {
						return strings.Compare(groupText([]api.Group{a}), groupText([]api.Group{b}))
					})
				}
				if !alike(m, want) {
					t.Fatal(l, other, m, want)
				}
			}
			if len(f.Members) != len(flats[f.Name].Members) {
				t.Fatal(l, other)
			}
		}
	})
	if count < 30 {
		t.Error("only", count, "features differ at all")
	}
}

// P4.13: of systems by chance, with a change of the flat forms.
func TestLawOfChecking(t *testing.T) {
	lawful(t, 413, 100, func(r *chance, l []api.Class, flats map[string]api.Flat) {
		all, _ := flat.Flats(l)
		if err := flat.CheckFlats(l, all); err != api.OK {
			t.Fatal(l, err)
		}
		n := 0
		skip := r.Intn(7)
		for changed := range variants(all) {
			if n++; n%7 == skip {
				if err := flat.CheckFlats(l, changed); err != api.ErrProof {
					t.Fatal(l, changed, err)
				}
			}
			if n > 140 {
				break
			}
		}
	})
}

// renamed returns a copy of a value in which each name is another one.
func renamed[T any](x T, anew func(string) string) T {
	out := copied(x)
	renameAll(reflect.ValueOf(&out).Elem(), anew)
	return out
}

func renameAll(v reflect.Value, anew func(string) string) {
	switch v.Kind() {
	case reflect.String:
		switch v.String() {
		case "", "ANY", "NONE":
		default:
			v.SetString(anew(v.String()))
		}
	case reflect.Slice:
		for i := range v.Len() {
			renameAll(v.Index(i), anew)
		}
	case reflect.Struct:
		for i := range v.NumField() {
			renameAll(v.Field(i), anew)
		}
	}
}

// P4.14
func TestLawOfNames(t *testing.T) {
	longer := func(s string) string { return s[:1] + s }
	turned := func(s string) string {
		out := []byte(s)
		for i, b := range out {
			if b >= 'a' {
				out[i] = 'a' + 'z' - b
			} else {
				out[i] = 'A' + 'Z' - b
			}
		}
		return string(out)
	}
	lawful(t, 414, 200, func(r *chance, l []api.Class, flats map[string]api.Flat) {
		all, _ := flat.Flats(l)
		// Names in the same order.
		if got, err := flat.Flats(renamed(l, longer)); err != api.OK || !alike(got, renamed(all, longer)) {
			t.Fatal(l, err)
		}
		// Names in the opposite order: what is ordered by them is so, too.
		got, err := flat.Flats(renamed(l, turned))
		if err != api.OK || len(got) != len(all) {
			t.Fatal(l, err)
		}
		for _, f := range got {
			want := renamed(flats[turned(f.Name)], turned)
			slices.Reverse(want.Members)
			for i := range want.Members {
				sortSeeds(want.Members[i].Seeds)
			}
			if !alike(f, want) {
				t.Fatal(l, f, want)
			}
		}
	})
}
