package heir_test

import (
	"fmt"
	"math/rand"
	"slices"
	"testing"

	"cosigner/api"
	"cosigner/heir"
)

// allRings returns all rings, by their definition.
func allRings(l []api.Class) [][]string {
	var out [][]string
	var grow func(way []string)
	grow = func(way []string) {
		for _, p := range parentsOf(l, way[len(way)-1]) {
			if p == way[0] {
				out = append(out, slices.Clone(way))
			}
			if !slices.Contains(way, p) && slices.Contains(namesOf(l), p) {
				grow(append(slices.Clone(way), p))
			}
		}
	}
	for _, c := range namesOf(l) {
		grow([]string{c})
	}
	return out
}

// P3.2: which ring is found.
func TestRing(t *testing.T) {
	for _, c := range []struct{ text, want string }{
		{"A D, B A, C A, D B C, E D A", "A D B"},
		{"A A", "A"},
		{"A B, B A", "A B"},
		{"B A, A B", "A B"},
		{"A B, B C, C A", "A B C"},
		{"C B, B A, A C", "A C B"},
		// A shorter one ahead of one with earlier names.
		{"A B, B C, C A, X Y, Y X", "X Y"},
		{"A B, B C, C A, Z Z", "Z"},
		{"A B, B C, C D, D A C", "C D"},
		// Several of the same length.
		{"Z Z, Y Y", "Y"},
		{"D C, C D, B A, A B", "A B"},
		{"A D C, C A, D A", "A C"},
		{"A C B, B D, C D, D A", "A B D"},
		{"A B, B E D, D A, E A", "A B D"},
		{"B C A, C B, A B", "A B"},
		// Names are compared byte by byte.
		{"A10 A10, A9 A9, A_ A_, AB AB", "A10"},
		{"AB AB, A_ A_, A0 A0", "A0"},
		{"B AA, AA B, A C, C A", "A C"},
		{"A AB AC, AB A, AC A", "A AB"},
		// A ring that is behind others, and one that is ahead of them.
		{"A B, B C, C D, D C", "C D"},
		{"A B, B A, C B, D C", "A B"},
		// A parent twice.
		{"A B B, B A A", "A B"},
		// Parents that are no classes are ignored.
		{"A X B, B Y A", "A B"},
		// Of classes with the same name only the first one counts.
		{"A B, B A, A A", "A B"},
		{"B, A B, B A, C D, D C", "C D"},
		// Names that no class may have.
		{"a b, b a", "a b"},
		{"ANY ANY", "ANY"},
	} {
		if got, ok := heir.Ring(system(c.text)); !ok || !slices.Equal(got, names(c.want)) {
			t.Errorf("%s: %v %v, want %s", c.text, got, ok, c.want)
		}
	}
	if got, ok := heir.Ring([]api.Class{class("B", "B"), class("", "")}); !ok || !slices.Equal(got, []string{""}) {
		t.Errorf("%q %v", got, ok)
	}
}

// P3.2: there is none.
func TestRingNone(t *testing.T) {
	for _, text := range []string{"", "A", example, "A X", "A ANY", "A, A A", "A, B A, A B", "A X, B X Y", "A B, B, B A"} {
		if got, ok := heir.Ring(system(text)); ok || got != nil {
			t.Errorf("%s: %v %v", text, got, ok)
		}
	}
}

// P3.2: Ring has no limits.
func TestRingOfMany(t *testing.T) {
	l := chain(300)
	if got, ok := heir.Ring(l); ok {
		t.Error(got)
	}
	l[0] = class("C00", "C299")
	got, ok := heir.Ring(l)
	if !ok || len(got) != 300 || got[0] != "C00" || got[1] != "C299" || got[299] != "C01" {
		t.Error(got, ok)
	}
	l[100] = class("C100", "C99", "C98", "C97", "C96", "C95", "C199", "C150")
	if got, ok := heir.Ring(l); !ok || len(got) != 51 || got[0] != "C100" {
		t.Error(got, ok)
	}
}

func provesRing(t *testing.T, l []api.Class, ring []string, want api.Errno) {
	t.Helper()
	if e := heir.CheckRing(l, ring); e != want {
		t.Errorf("%v of %v: %d, want %d", ring, l, e, want)
	}
}

// P3.2: what CheckRing accepts.
func TestCheckRing(t *testing.T) {
	for text, rings := range map[string][]string{
		"A D, B A, C A, D B C, E D A": {"A D B", "A D C", "D B A", "B A D", "D C A", "C A D"},
		"A A":                         {"A"},
		"A B A, B A":                  {"A", "A B", "B A"},
		"A X B, B A Y":                {"A B"},
		"A B, B A, A":                 {"A B"},
		"a b, b a":                    {"b a"},
	} {
		for _, ring := range rings {
			provesRing(t, system(text), names(ring), api.OK)
		}
	}
	for text, lists := range map[string][]string{
		"A D, B A, C A, D B C, E D A": {"", "A", "A D", "D A", "A B D", "A D B A", "A D B A D B", "A D B A D C", "E D A", "E", "A D C B", "D B C", "X", "A D X", "A A", "D D", "A D B B", "A A D B", "ANY"},
		example:                       {"", "A", "B A", "A B", "E D B A", "E A"},
		"A A, B":                      {"", "B", "A A", "A B", "B A", "X"},
		"A, B A, A B":                 {"A B", "B A"},
		"A X, X0 A":                   {"A X", "X A", "X"},
		"A B, B C, C A":               {"A C B", "A B", "B C", "C A", "A B C A", "A B C A B C"},
		"":                            {"", "A"},
	} {
		for _, list := range lists {
			provesRing(t, system(text), names(list), api.ErrProof)
		}
	}
}

// P3.2: the limit of CheckRing comes first.
func TestCheckRingLimits(t *testing.T) {
	l := chain(api.MaxClasses)
	l[0] = class("C00", number(api.MaxClasses-1))
	ring := namesOf(l)
	slices.Reverse(ring)
	provesRing(t, l, ring, api.OK)
	provesRing(t, l, append(ring, ring[0]), api.ErrLimit)
	provesRing(t, nil, make([]string, api.MaxClasses), api.ErrProof)
	provesRing(t, nil, make([]string, api.MaxClasses+1), api.ErrLimit)
	provesRing(t, append(l, class("X", "X")), []string{"X"}, api.ErrLimit)
	provesRing(t, append(l, class("X", "X")), nil, api.ErrLimit)
	provesRing(t, append(l[:len(l)-1:len(l)-1], class("X", "X")), []string{"X"}, api.OK)
}

// P3.2, P3.12: all lists of a few names, of systems by chance, against the definition of rings.
func TestRingsByChance(t *testing.T) {
	r := rand.New(rand.NewSource(32))
	none := 0
	for range 3000 {
		l := tangle(r, 5)
		rings := allRings(l)
		got, ok := heir.Ring(l)
		if ok != (len(rings) > 0) || ok && !slices.Equal(got, firstOf(rings)) {
			t.Fatalf("%v: %v %v, want one of %v", l, got, ok, rings)
		}
		if !ok {
			none++
		}
		for range 20 {
			list := make([]string, r.Intn(5))
			for i := range list {
				list[i] = number(r.Intn(6))
			}
			isRing := slices.ContainsFunc(rings, func(x []string) bool { return slices.Equal(x, list) })
			if e := heir.CheckRing(l, list); (e == api.OK) != isRing || e != api.OK && e != api.ErrProof {
				t.Fatalf("%v of %v: %d", list, l, e)
			}
		}
		for _, x := range rings {
			provesRing(t, l, x, api.OK)
			if e, _ := heir.Check(l); e == api.OK {
				t.Fatalf("%v has the ring %v", l, x)
			}
		}
	}
	if none < 300 || none > 2700 {
		t.Error("rings are in all but", none)
	}
}

// P3.12: the ring of a system that Check refuses for one.
func TestLawOfRings(t *testing.T) {
	r := rand.New(rand.NewSource(312))
	found := 0
	for range 5000 {
		l := byChance(r, 8)
		if len(l) == 0 {
			continue
		}
		c := &l[r.Intn(len(l))]
		if len(c.Parents) < api.MaxParents {
			c.Parents = append(c.Parents, api.Parent{Name: l[r.Intn(len(l))].Name})
		}
		e, name := heir.Check(l)
		ring, ok := heir.Ring(l)
		if e == api.ErrCycle {
			found++
			if !ok || ring[0] != name {
				t.Fatal(l, name, ring)
			}
			provesRing(t, l, ring, api.OK)
		}
		if e == api.OK && ok {
			t.Fatal(l, ring)
		}
	}
	if found < 500 {
		t.Error("there were only", found, "rings")
	}
}

// The results are new memory, and nothing is changed.
func TestMemoryOfRings(t *testing.T) {
	l := []api.Class{fullClass("A", "B"), fullClass("B", "A"), fullClass("A", "A")}
	before := fmt.Sprint(l)
	one, _ := heir.Ring(l)
	two, _ := heir.Ring(l)
	apart(t, l, one, two)
	round := append(make([]string, 0, 10), one...)
	provesRing(t, l, round, api.OK)
	if fmt.Sprint(l) != before || round[:3][2] != "" {
		t.Error("an argument is changed")
	}
}
