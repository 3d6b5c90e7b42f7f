package heir_test

import (
	"math/rand"
	"slices"
	"testing"

	"cosigner/api"
	"cosigner/heir"
)

func order(t *testing.T, l []api.Class) []string {
	t.Helper()
	got, e := heir.Order(l)
	if e != api.OK {
		t.Fatalf("%v: %d", l, e)
	}
	return got
}

func levels(t *testing.T, l []api.Class) [][]string {
	t.Helper()
	got, e := heir.Levels(l)
	if e != api.OK {
		t.Fatalf("%v: %d", l, e)
	}
	return got
}

func least(t *testing.T, l []api.Class, a, b string) []string {
	t.Helper()
	got, e := heir.Least(l, a, b)
	if e != api.OK {
		t.Fatalf("%v, %s, %s: %d", l, a, b, e)
	}
	return got
}

func needless(t *testing.T, l []api.Class) []api.Link {
	t.Helper()
	got, e := heir.Needless(l)
	if e != api.OK {
		t.Fatalf("%v: %d", l, e)
	}
	return got
}

// P3.6
func TestOrder(t *testing.T) {
	for text, want := range map[string]string{
		"":                          "",
		example:                     "A B C D E",
		"E D A, D B C, C A, B A, A": "A B C D E",
		"C, B, A":                   "A B C",
		"A Z, Z, B":                 "B Z A",
		"A Z, Z, B A":               "Z A B",
		"A C, B, C D, D":            "B D C A",
		"A X, B Y, X, Y":            "X A Y B",
		"A Y, B X, X, Y":            "X B Y A",
		"D A, A, C A, B D":          "A C D B",
		"AB, A_, A9, A10, B, A":     "A A10 A9 AB A_ B",
	} {
		same(t, text, order(t, system(text)), names(want))
	}
}

// P3.6
func TestLevels(t *testing.T) {
	for text, want := range map[string][]string{
		"":                          nil,
		example:                     {"A", "B C", "D", "E"},
		"E D A, D C B, C A, B A, A": {"A", "B C", "D", "E"},
		"C, B, A":                   {"A B C"},
		"B C, A C, C":               {"C", "A B"},
		// The longest way counts, not the shortest one.
		"D A C, C B, B A, A":       {"A", "B", "C", "D"},
		"A Z, Z, B, C B A, D B":    {"B Z", "A D", "C"},
		"A9 B, A10 B, A_ B, A0, B": {"A0 B", "A10 A9 A_"},
	} {
		got := levels(t, system(text))
		if len(got) != len(want) {
			t.Errorf("%s: %v", text, got)
			continue
		}
		for i := range got {
			same(t, text, got[i], names(want[i]))
		}
	}
}

// P3.7
func TestLeast(t *testing.T) {
	for _, c := range []struct{ text, a, b, want string }{
		{example, "B", "C", "A"}, {example, "D", "B", "B"}, {example, "B", "D", "B"}, {example, "E", "D", "D"}, {example, "A", "A", "A"},
		{example, "E", "E", "E"}, {example, "E", "A", "A"}, {example, "C", "B", "A"},
		{"A, B", "A", "B", ""},
		{"A, B, C A, D B", "C", "D", ""},
		{"A, B, C B A, D A B", "C", "D", "A B"},
		{"Z, Y, C Z Y, D Y Z", "C", "D", "Y Z"},
		{"A, B A, C B A, D A B", "C", "D", "B"},
		{"A, B A, X, C X B, D B A X", "C", "D", "B X"},
		{"A, B A, C B, D C, E C A", "D", "E", "C"},
		{"A_, AA, A9, A10, C A_ AA A9 A10, D A_ AA A9 A10", "C", "D", "A10 A9 AA A_"},
	} {
		same(t, c, least(t, system(c.text), c.a, c.b), names(c.want))
	}
}

// P3.8
func TestNeedless(t *testing.T) {
	for text, want := range map[string][]api.Link{
		"":                          nil,
		"A, B A, C A, D B C":        nil,
		example:                     {{Class: "E", Parent: "A"}},
		"E A D, D B C, C A, B A, A": {{Class: "E", Parent: "A"}},
		"A, B A, C B, D C B A":      {{Class: "D", Parent: "B"}, {Class: "D", Parent: "A"}},
		"A, B A, C B, D A B C":      {{Class: "D", Parent: "A"}, {Class: "D", Parent: "B"}},
		// In the order of the classes in the system, and of the parents in a class.
		"D A B C, C A B, B A, A": {{Class: "D", Parent: "A"}, {Class: "D", Parent: "B"}, {Class: "C", Parent: "A"}},
		"A, B A, C B A, D C B A": {{Class: "C", Parent: "A"}, {Class: "D", Parent: "B"}, {Class: "D", Parent: "A"}},
	} {
		if got := needless(t, system(text)); !slices.Equal(got, want) {
			t.Errorf("%s: %v, want %v", text, got, want)
		}
	}
}

// allOrders yields the lists of classes in which each one comes behind its proper ancestors.
func allOrders(l []api.Class) [][]string {
	var out [][]string
	var grow func(list []string)
	grow = func(list []string) {
		if len(list) == len(l) {
			out = append(out, slices.Clone(list))
		}
		for _, c := range namesOf(l) {
			missing := func(p string) bool { return !slices.Contains(list, p) }
			if !slices.Contains(list, c) && !slices.ContainsFunc(parentsOf(l, c), missing) {
				grow(append(slices.Clone(list), c))
			}
		}
	}
	grow(nil)
	return out
}

// longest returns how many names the longest way of a class has.
func longest(l []api.Class, c string) int {
	most := 0
	for _, a := range namesOf(l) {
		for _, w := range allWays(l, c, a) {
			most = max(most, len(w))
		}
	}
	return most
}

// P3.6: of systems by chance, against the definitions.
func TestOrdersByChance(t *testing.T) {
	r := rand.New(rand.NewSource(36))
	for range 400 {
		l := byChance(r, 6)
		same(t, l, order(t, l), firstOf(allOrders(l)))
		want := map[int][]string{}
		for _, c := range slices.Sorted(slices.Values(namesOf(l))) {
			n := longest(l, c)
			want[n] = append(want[n], c)
		}
		got := levels(t, l)
		if len(got) != len(want) {
			t.Fatal(l, got, want)
		}
		for i, level := range got {
			same(t, l, level, want[i+1])
		}
	}
}

// behindAncestors checks that a list has all of these classes, each behind its proper ancestors.
func behindAncestors(t *testing.T, l []api.Class, list, classes []string) {
	t.Helper()
	if len(list) != len(classes) {
		t.Fatal(l, list)
	}
	for _, c := range classes {
		at := slices.Index(list, c)
		if at < 0 {
			t.Fatal(l, list, c)
		}
		for _, a := range classes {
			if a != c && isAbove(l, c, a) && slices.Index(list, a) > at {
				t.Fatal(l, list, c, a)
			}
		}
	}
}

// P3.14
func TestLawOfOrders(t *testing.T) {
	r := rand.New(rand.NewSource(314))
	for range 100 {
		l := byChance(r, 12)
		behindAncestors(t, l, order(t, l), namesOf(l))
		behindAncestors(t, l, slices.Concat(levels(t, l)...), namesOf(l))
		for _, c := range namesOf(l) {
			var ancestors []string
			for _, a := range namesOf(l) {
				if isAbove(l, c, a) {
					ancestors = append(ancestors, a)
				}
			}
			behindAncestors(t, l, above(t, l, c), ancestors)
		}
	}
}

// P3.7, P3.15
func TestLawOfLeast(t *testing.T) {
	r := rand.New(rand.NewSource(315))
	several := 0
	for range 200 {
		l := byChance(r, 10)
		for _, a := range namesOf(l) {
			for _, b := range namesOf(l) {
				got := least(t, l, a, b)
				if len(got) > 1 {
					several++
				}
				if !slices.IsSorted(got) {
					t.Fatal(l, a, b, got)
				}
				if is(t, l, a, b) {
					same(t, l, got, []string{b})
				}
				leastHolds(t, l, a, b, got)
			}
		}
	}
	if several < 100 {
		t.Error("only", several, "had several elements")
	}
}

// leastHolds checks that a list has just those common ancestors that are above no other one.
func leastHolds(t *testing.T, l []api.Class, a, b string, list []string) {
	t.Helper()
	var common []string
	for _, c := range namesOf(l) {
		if isAbove(l, a, c) && isAbove(l, b, c) {
			common = append(common, c)
		}
	}
	for _, c := range common {
		covers := func(x string) bool { return isAbove(l, x, c) }
		if !slices.ContainsFunc(list, covers) {
			t.Fatal(l, a, b, list, c)
		}
		aboveOther := slices.ContainsFunc(common, func(x string) bool { return x != c && isAbove(l, x, c) })
		if slices.Contains(list, c) == aboveOther {
			t.Fatal(l, a, b, list, c)
		}
	}
	for _, c := range list {
		if !slices.Contains(common, c) {
			t.Fatal(l, a, b, list, c)
		}
	}
}

// unlinked returns a system without some links.
func unlinked(l []api.Class, links ...api.Link) []api.Class {
	var out []api.Class
	for _, c := range l {
		c.Parents = slices.DeleteFunc(slices.Clone(c.Parents), func(p api.Parent) bool {
			return slices.Contains(links, api.Link{Class: c.Name, Parent: p.Name})
		})
		out = append(out, c)
	}
	return out
}

// sameRelation tells whether two systems of the same classes have the same ancestors.
func sameRelation(t *testing.T, l, m []api.Class) bool {
	for _, c := range namesOf(l) {
		if !slices.Equal(below(t, l, c), below(t, m, c)) {
			return false
		}
	}
	return true
}

// P3.8, P3.16
func TestLawOfLinks(t *testing.T) {
	r := rand.New(rand.NewSource(316))
	for range 200 {
		l := byChance(r, 9)
		got := needless(t, l)
		var want []api.Link
		for _, c := range l {
			for _, p := range c.Parents {
				link := api.Link{Class: c.Name, Parent: p.Name}
				without := unlinked(l, link)
				if isAbove(without, c.Name, p.Name) {
					want = append(want, link)
				}
				if sameRelation(t, l, without) != slices.Contains(got, link) {
					t.Fatal(l, link, got)
				}
			}
		}
		if !slices.Equal(got, want) || !sameRelation(t, l, unlinked(l, got...)) {
			t.Fatal(l, got, want)
		}
	}
}

// The results are new memory, and no argument is changed.
func TestMemoryOfOrders(t *testing.T) {
	system := func() []api.Class {
		return []api.Class{fullClass("D", "C", "B", "A"), fullClass("C", "A"), fullClass("B", "A"), fullClass("A")}
	}
	l := system()
	apart(t, l, order(t, l), order(t, l), levels(t, l), levels(t, l), least(t, l, "B", "C"), least(t, l, "B", "C"), needless(t, l), needless(t, l))
	if !alike(l, system()) {
		t.Error("the system is changed")
	}
}
