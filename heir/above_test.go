package heir_test

import (
	"math/rand"
	"slices"
	"testing"

	"cosigner/api"
	"cosigner/heir"
)

func above(t *testing.T, l []api.Class, c string) []string {
	t.Helper()
	got, e := heir.Above(l, c)
	if e != api.OK {
		t.Fatalf("%v, %s: %d", l, c, e)
	}
	return got
}

func below(t *testing.T, l []api.Class, c string) []string {
	t.Helper()
	got, e := heir.Below(l, c)
	if e != api.OK {
		t.Fatalf("%v, %s: %d", l, c, e)
	}
	return got
}

func is(t *testing.T, l []api.Class, c, a string) bool {
	t.Helper()
	got, e := heir.Is(l, c, a)
	if e != api.OK {
		t.Fatalf("%v, %s, %s: %d", l, c, a, e)
	}
	return got
}

func ways(t *testing.T, l []api.Class, c, a string) int {
	t.Helper()
	got, e := heir.Ways(l, c, a)
	if e != api.OK {
		t.Fatalf("%v, %s, %s: %d", l, c, a, e)
	}
	return got
}

// P3.3
func TestAbove(t *testing.T) {
	for _, c := range []struct{ text, of, want string }{
		{example, "E", "A B C D E"},
		{example, "D", "A B C D"},
		{example, "C", "A C"},
		{example, "A", "A"},
		{"A, B, C, D C A B", "D", "C A B D"},
		{"A, B A, C, D C B A", "D", "C A B D"},
		{"A, B, C B A, D A B, E D C", "E", "A B D C E"},
		{"A, B, C B A, D A B, E C D", "E", "B A C D E"},
		{"E D, D C, C B, B A, A", "E", "A B C D E"},
		{"A, B A, C B, D A C, E", "D", "A B C D"},
		{"A, B A, C B, D A C, E", "E", "E"},
	} {
		same(t, c, above(t, system(c.text), c.of), names(c.want))
	}
}

// P3.3
func TestBelow(t *testing.T) {
	for _, c := range []struct{ text, of, want string }{
		{example, "A", "A B C D E"},
		{example, "B", "B D E"},
		{example, "C", "C D E"},
		{example, "E", "E"},
		{"E D A, D B C, C A, B A, A", "C", "E D C"},
		{"E D A, D B C, C A, B A, A", "A", "E D C B A"},
		{"B, D A, A, C", "A", "D A"},
		{"B, D A, A, C", "C", "C"},
	} {
		same(t, c, below(t, system(c.text), c.of), names(c.want))
	}
}

// P3.4
func TestIs(t *testing.T) {
	for _, c := range []struct {
		text, c, a string
		want       bool
	}{
		{example, "E", "A", true}, {example, "E", "B", true}, {example, "D", "C", true}, {example, "A", "A", true}, {example, "E", "E", true},
		{example, "A", "E", false}, {example, "B", "C", false}, {example, "C", "B", false}, {example, "A", "B", false},
		{"A, B, C B", "C", "A", false}, {"A, B, C B", "A", "C", false}, {"A, B, C B", "C", "B", true},
	} {
		if got := is(t, system(c.text), c.c, c.a); got != c.want {
			t.Error(c, got)
		}
	}
}

// P3.4
func TestWay(t *testing.T) {
	for _, c := range []struct{ text, c, a, want string }{
		{example, "E", "A", "E A"},
		{example, "D", "A", "D B A"},
		{example, "E", "C", "E D C"},
		{example, "C", "C", "C"},
		{"A, B A, C A, D C B", "D", "A", "D B A"},
		// A shorter way ahead of one with earlier names.
		{"A, B A, C B, D C, E D, Z A, F E B Z", "F", "A", "F B A"},
		{"A, B A, C B, Z A, F C Z", "F", "A", "F Z A"},
		// Of several ways of the same length the first one, by the first names that differ.
		{"A, X A, Y A, B Y, C X, D C B", "D", "A", "D B Y A"},
		{"A, X A, Y A, B Y X, C X, D C B", "D", "A", "D B X A"},
		{"A, A9 A, A10 A, B A9 A10", "B", "A", "B A10 A"},
		{"A, A0 A, A_ A, AA A, B AA A_ A0", "B", "A", "B A0 A"},
		{"A, A_ A, AA A, B A_ AA", "B", "A", "B AA A"},
	} {
		got, e := heir.Way(system(c.text), c.c, c.a)
		if e != api.OK {
			t.Error(c, e)
		}
		same(t, c, got, names(c.want))
	}
	for _, c := range [][2]string{{"A", "E"}, {"B", "C"}, {"C", "B"}, {"A", "B"}} {
		if got, e := heir.Way(system(example), c[0], c[1]); e != api.ErrNone || got != nil {
			t.Error(c, got, e)
		}
	}
}

// P3.4
func TestCheckWay(t *testing.T) {
	for _, c := range []struct {
		text, c, a string
		right      []string
		wrong      []string
	}{
		{example, "E", "A", []string{"E A", "E D B A", "E D C A"}, []string{"", "E", "A", "A E", "E B A", "E D A", "E D B", "D B A", "E D B A A", "E E A", "E A A", "E A E A", "E X A", "E D B C A", "A B D E", "E D B A E", "X E A", "E A X", "E E", "A A"}},
		{example, "A", "A", []string{"A"}, []string{"", "A A", "B", "B A", "A B A", "A E A"}},
		{example, "B", "C", nil, []string{"", "B C", "B A C", "B", "C", "B D C", "B A"}},
		{example, "D", "B", []string{"D B"}, []string{"D C A B", "B D", "D D B", "D B B", "D C B"}},
		{"A, B", "A", "B", nil, []string{"A B", "A", "B", ""}},
	} {
		for _, way := range c.right {
			if e := heir.CheckWay(system(c.text), c.c, c.a, names(way)); e != api.OK {
				t.Error(c, way, e)
			}
		}
		for _, way := range c.wrong {
			if e := heir.CheckWay(system(c.text), c.c, c.a, names(way)); e != api.ErrProof {
				t.Error(c, way, e)
			}
		}
	}
	if e := heir.CheckWay(system(example), "E", "A", make([]string, 1000)); e != api.ErrProof {
		t.Error(e)
	}
}

// P3.4: errors ahead of that of the list of names.
func TestCheckWayErrors(t *testing.T) {
	for _, way := range []string{"", "A X", "X A", "X"} {
		if e := heir.CheckWay(system(example), "X", "A", names(way)); e != api.ErrNone {
			t.Error(way, e)
		}
		if e := heir.CheckWay(system(example), "A", "X", names(way)); e != api.ErrNone {
			t.Error(way, e)
		}
		if e := heir.CheckWay(system("A, X Y"), "Q", "A", names(way)); e != api.ErrNone {
			t.Error(way, e)
		}
		if e := heir.CheckWay(system("A, A X"), "X", "A", names(way)); e != api.ErrTwice {
			t.Error(way, e)
		}
	}
}

// P3.5
func TestWays(t *testing.T) {
	for _, c := range []struct {
		text, c, a string
		want       int
	}{
		{example, "E", "A", 3}, {example, "D", "A", 2}, {example, "B", "A", 1}, {example, "E", "D", 1}, {example, "E", "C", 1},
		{example, "A", "A", 1}, {example, "E", "E", 1}, {example, "D", "D", 1}, {example, "A", "E", 0}, {example, "B", "C", 0},
		{"A, B A, C A, D A, E B C D A", "E", "A", 4},
		{"A, B A, C A B, D A B C, E A B C D", "E", "A", 8},
	} {
		if got := ways(t, system(c.text), c.c, c.a); got != c.want {
			t.Error(c, got)
		}
	}
}

// P3.5: of the largest systems.
func TestWaysOfMany(t *testing.T) {
	l := chain(api.MaxClasses)
	want := map[int]int{0: 1}
	for i := range l {
		l[i].Parents = nil
		for p := max(0, i-api.MaxParents); p < i; p++ {
			l[i].Parents = append(l[i].Parents, api.Parent{Name: number(p)})
			want[i] += want[p]
		}
		if got := ways(t, l, number(i), "C00"); got != want[i] {
			t.Error(i, got, want[i])
		}
	}
	if want[23] < 1000000 {
		t.Error("there are not many ways:", want[23])
	}
	if got, e := heir.Way(l, "C23", "C00"); e != api.OK || !slices.Equal(got, names("C23 C19 C15 C11 C07 C03 C00")) {
		t.Error(got, e)
	}
	if got := above(t, l, "C23"); !slices.Equal(got, namesOf(l)) {
		t.Error(got)
	}
}

// aboveOf returns what Above does, by the words of its promise.
func aboveOf(l []api.Class, c string) []string {
	var out []string
	for _, p := range parentsOf(l, c) {
		for _, a := range aboveOf(l, p) {
			if !slices.Contains(out, a) {
				out = append(out, a)
			}
		}
	}
	return append(out, c)
}

// P3.3, P3.4, P3.5, P3.11, P3.13, P3.14, and the ways' part of P3.12: of systems by chance, against the definitions.
func TestAncestorsByChance(t *testing.T) {
	r := rand.New(rand.NewSource(33))
	for range 300 {
		l := byChance(r, 9)
		for _, c := range namesOf(l) {
			up := above(t, l, c)
			same(t, l, up, aboveOf(l, c))
			var heirs []string
			for _, a := range namesOf(l) {
				all := allWays(l, c, a)
				if is(t, l, c, a) != (len(all) > 0) || ways(t, l, c, a) != len(all) || slices.Contains(up, a) != (len(all) > 0) {
					t.Fatal(l, c, a)
				}
				if isAbove(l, a, c) {
					heirs = append(heirs, a)
				}
				waysHold(t, r, l, all, c, a)
			}
			same(t, l, below(t, l, c), heirs)
		}
	}
}

// waysHold checks Way and CheckWay by all ways from c to a.
func waysHold(t *testing.T, r *rand.Rand, l []api.Class, all [][]string, c, a string) {
	t.Helper()
	way, e := heir.Way(l, c, a)
	if len(all) == 0 && (e != api.ErrNone || way != nil) || len(all) > 0 && (e != api.OK || !slices.Equal(way, firstOf(all))) {
		t.Fatal(l, c, a, way, e)
	}
	for _, w := range all {
		if e := heir.CheckWay(l, c, a, w); e != api.OK {
			t.Fatal(l, w, e)
		}
		list := slices.Clone(w)
		list[r.Intn(len(list))] = number(r.Intn(10))
		isWay := slices.ContainsFunc(all, func(x []string) bool { return slices.Equal(x, list) })
		if e := heir.CheckWay(l, c, a, list); (e == api.OK) != isWay || e != api.OK && e != api.ErrProof {
			t.Fatal(l, list, e)
		}
	}
}

// P3.11
func TestLawOfAncestors(t *testing.T) {
	r := rand.New(rand.NewSource(311))
	for range 60 {
		l := byChance(r, 10)
		for _, x := range namesOf(l) {
			if !is(t, l, x, x) {
				t.Fatal(l, x)
			}
			for _, y := range namesOf(l) {
				if x != y && is(t, l, x, y) && is(t, l, y, x) {
					t.Fatal(l, x, y)
				}
				for _, z := range namesOf(l) {
					if is(t, l, x, y) && is(t, l, y, z) && !is(t, l, x, z) {
						t.Fatal(l, x, y, z)
					}
				}
			}
		}
	}
}

// P3.12: if CheckWay accepts a list, Is is true, and Way is not longer; and it accepts what Way returns.
func TestLawOfWays(t *testing.T) {
	r := rand.New(rand.NewSource(3121))
	accepted := 0
	for range 20000 {
		l := byChance(r, 6)
		list := make([]string, r.Intn(4))
		for i := range list {
			list[i] = number(r.Intn(6))
		}
		if len(list) == 0 {
			continue
		}
		c, a := list[0], list[len(list)-1]
		if heir.CheckWay(l, c, a, list) == api.OK {
			accepted++
			if way, e := heir.Way(l, c, a); !is(t, l, c, a) || e != api.OK || len(way) > len(list) {
				t.Fatal(l, list, way, e)
			}
		}
		if way, e := heir.Way(l, c, a); e == api.OK && heir.CheckWay(l, c, a, way) != api.OK {
			t.Fatal(l, way)
		}
	}
	if accepted < 1000 {
		t.Error("only", accepted, "were accepted")
	}
}

// P3.13
func TestLawOfCounting(t *testing.T) {
	r := rand.New(rand.NewSource(313))
	for range 100 {
		l := byChance(r, 16)
		for _, c := range namesOf(l) {
			for _, a := range namesOf(l) {
				want := 0
				for _, p := range parentsOf(l, c) {
					want += ways(t, l, p, a)
				}
				if c == a {
					want = 1
				}
				if got := ways(t, l, c, a); got != want || (got > 0) != is(t, l, c, a) {
					t.Fatal(l, c, a, got, want)
				}
			}
		}
	}
}

// The results are new memory, and no argument is changed.
func TestMemoryOfAncestors(t *testing.T) {
	l := []api.Class{fullClass("A"), fullClass("B", "A"), fullClass("C", "A"), fullClass("D", "C", "B")}
	before := []api.Class{fullClass("A"), fullClass("B", "A"), fullClass("C", "A"), fullClass("D", "C", "B")}
	list := names("D B A")
	up, down := above(t, l, "D"), below(t, l, "A")
	way, _ := heir.Way(l, "D", "A")
	apart(t, l, list, up, down, way, above(t, l, "D"), below(t, l, "A"))
	if e := heir.CheckWay(l, "D", "A", list); e != api.OK {
		t.Error(e)
	}
	same(t, "the list", list, names("D B A"))
	if !alike(l, before) {
		t.Error("the system is changed")
	}
}
