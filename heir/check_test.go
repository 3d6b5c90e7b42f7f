package heir_test

import (
	"fmt"
	"math/rand"
	"slices"
	"strings"
	"testing"

	"cosigner/api"
	"cosigner/heir"
)

func checks(t *testing.T, l []api.Class, want api.Errno, name string) {
	t.Helper()
	if e, n := heir.Check(l); e != want || n != name {
		t.Errorf("%v: %d %q, want %d %q", l, e, n, want, name)
	}
}

// P3.1: systems that are valid.
func TestCheckValid(t *testing.T) {
	checks(t, nil, api.OK, "")
	checks(t, []api.Class{}, api.OK, "")
	for _, text := range []string{example, "A", "A, B, C", "B A, A", "E D A, D B C, C A, B A, A", "A, B, C, D, E A B C D", "E D C B A, D, C, B, A"} {
		checks(t, system(text), api.OK, "")
	}
}

// P3.1: the limits of classes and parents.
func TestCheckLimits(t *testing.T) {
	l := chain(api.MaxClasses)
	checks(t, l, api.OK, "")
	checks(t, chain(api.MaxClasses+1), api.ErrLimit, "")
	l[7] = class("C07", "C00", "C01", "C02", "C03")
	checks(t, l, api.OK, "")
	l[7] = class("C07", "C00", "C01", "C02", "C03", "C04")
	checks(t, l, api.ErrLimit, "C07")
}

// P3.1, L1: names of classes.
func TestCheckNames(t *testing.T) {
	long := strings.Repeat("A", api.MaxName)
	for _, name := range []string{"A", "Z", "A0", "Z9", "A_", "A_B_9", "Q0123456789", long, "ANYONE", "AN", "NON", "NONE_", "INTEGERS", "INTEGE", "BOOLEAN1", "CLASS", "END", "VOID", "RESULT"} {
		checks(t, []api.Class{class(name)}, api.OK, "")
		checks(t, []api.Class{class("B0", name), class(name)}, api.OK, "")
	}
	for _, name := range []string{"", "INTEGER", "BOOLEAN", "ANY", "NONE", "a", "Aa", "0", "0A", "9", "_", "_A", "A ", " A", "A-B", "A.B", "A\n", "A\x00", "\x00", "Ä", "AÄ", "A\xc4", "@", "[", "A@", "A[", "A/", "A:", "A^", "A`", "Any", "void", long + "A", long + "_", strings.Repeat("A", 5000)} {
		checks(t, []api.Class{class("B0"), class(name)}, api.ErrName, name)
	}
	for b := range 256 {
		capital := b >= 'A' && b <= 'Z'
		for name, right := range map[string]bool{string([]byte{byte(b)}): capital, string([]byte{'A', byte(b)}): capital || b == '_' || b >= '0' && b <= '9', string([]byte{'A', byte(b), '0'}): capital || b == '_' || b >= '0' && b <= '9'} {
			if e, _ := heir.Check([]api.Class{class(name)}); (e == api.OK) != right {
				t.Errorf("%q: %d", name, e)
			}
		}
	}
}

// P3.1: two classes with the same name; a parent listed twice.
func TestCheckTwice(t *testing.T) {
	checks(t, system("A, B, A"), api.ErrTwice, "A")
	checks(t, system("A, B, C, B A"), api.ErrTwice, "B")
	checks(t, system("A, B A A"), api.ErrTwice, "B")
	checks(t, system("A, B, C A B A"), api.ErrTwice, "C")
	checks(t, system("A, B, C, D, E A B C B"), api.ErrTwice, "E")
	checks(t, system("A, B, C X X"), api.ErrTwice, "C")
	checks(t, system("A A A"), api.ErrTwice, "A")
	checks(t, system("A, B A A, B, A"), api.ErrTwice, "B")
}

// P3.1: parents that are no classes of the system.
func TestCheckNone(t *testing.T) {
	for _, parent := range []string{"X", "ANY", "NONE", "INTEGER", "BOOLEAN", "", "a", "AA", strings.Repeat("A", 100)} {
		checks(t, []api.Class{class("A"), class("B", parent)}, api.ErrNone, "B")
		checks(t, []api.Class{class("A"), class("B", "A", parent), class("C", parent)}, api.ErrNone, "B")
	}
	checks(t, system("D X, C Y, B Z"), api.ErrNone, "D")
}

// P3.1: rings.
func TestCheckCycle(t *testing.T) {
	checks(t, system("A A"), api.ErrCycle, "A")
	checks(t, system("B A, A B"), api.ErrCycle, "A")
	checks(t, system("A D, B A, C A, D B C, E D A"), api.ErrCycle, "A")
	checks(t, system("A B, B C, C B"), api.ErrCycle, "B")
	checks(t, system("A B, B A, Z Z"), api.ErrCycle, "Z")
	checks(t, system("Z Z, Y Y, X"), api.ErrCycle, "Y")
}

// P3.1: which of several errors is reported, and of which class.
func TestCheckOrder(t *testing.T) {
	for _, c := range []struct {
		text string
		want api.Errno
		name string
	}{
		// Errors of one class.
		{"a V W X Y Z", api.ErrLimit, "a"},
		{"A V V V V V", api.ErrLimit, "A"},
		{"A A A A A A", api.ErrLimit, "A"},
		{"B, B V W X Y Z", api.ErrLimit, "B"},
		{"a X X", api.ErrName, "a"},
		{"a, a", api.ErrName, "a"},
		{"ANY ANY", api.ErrName, "ANY"},
		{"A, A X", api.ErrTwice, "A"},
		{"A A A", api.ErrTwice, "A"},
		{"A A X", api.ErrNone, "A"},
		// Errors of several classes: all those that a class has by itself come ahead of those of the next one.
		{"A, A, a, B V W X Y Z", api.ErrTwice, "A"},
		{"a, B V W X Y Z, C C C", api.ErrName, "a"},
		{"A X X, b, C V W X Y Z", api.ErrTwice, "A"},
		{"A V W X Y Z, b, A", api.ErrLimit, "A"},
		// And those come ahead of parents that are none, and of rings.
		{"A X, B, b", api.ErrName, "b"},
		{"A X, B, A", api.ErrTwice, "A"},
		{"A X, B V W X Y Z", api.ErrLimit, "B"},
		{"A A, B, b", api.ErrName, "b"},
		{"A A, B X", api.ErrNone, "B"},
		{"B B, A X, C Y", api.ErrNone, "A"},
	} {
		checks(t, system(c.text), c.want, c.name)
	}
	l := chain(api.MaxClasses + 1)
	l[0] = class("a", "b", "b", "c", "d", "e", "f")
	checks(t, l, api.ErrLimit, "")
	checks(t, slices.Concat(l, l), api.ErrLimit, "")
}

// wanted returns what Check returns, found in another way: every error that there is, with where it is looked for, and of these the first one.
func wanted(l []api.Class) (api.Errno, string) {
	type found struct {
		at   int
		err  api.Errno
		name string
	}
	all := []found{{1 << 30, api.OK, ""}}
	count := map[string]int{}
	for i, c := range l {
		count[c.Name]++
		parents := map[string]bool{}
		for _, p := range c.Parents {
			parents[p.Name] = true
			if !slices.Contains(namesOf(l), p.Name) {
				all = append(all, found{10000 + i, api.ErrNone, c.Name})
			}
		}
		if len(c.Parents) > 4 {
			all = append(all, found{10*i + 1, api.ErrLimit, c.Name})
		}
		if c.Name == "" || strings.Trim(c.Name, "ABCDEFGHIJKLMNOPQRSTUVWXYZ_0123456789") != "" || strings.Contains("_0123456789", c.Name[:1]) || len(c.Name) > 20 || slices.Contains(names("INTEGER BOOLEAN ANY NONE"), c.Name) {
			all = append(all, found{10*i + 2, api.ErrName, c.Name})
		}
		if len(parents) < len(c.Parents) || count[c.Name] > 1 {
			all = append(all, found{10*i + 3, api.ErrTwice, c.Name})
		}
	}
	if rings := allRings(l); len(rings) > 0 {
		all = append(all, found{20000, api.ErrCycle, firstOf(rings)[0]})
	}
	first := slices.MinFunc(all, func(a, b found) int { return a.at - b.at })
	return first.err, first.name
}

// P3.1
func TestCheckByChance(t *testing.T) {
	r := rand.New(rand.NewSource(31))
	some := names("A B C D E F X Y Z A0 a ANY")
	seen := map[api.Errno]int{}
	for range 20000 {
		var l []api.Class
		for _, i := range r.Perm(6)[:r.Intn(6)] {
			c := class(some[i])
			if r.Intn(15) == 0 {
				c.Name = some[r.Intn(len(some))]
			}
			for range r.Intn(3) + r.Intn(2)*r.Intn(2)*r.Intn(4) {
				c.Parents = append(c.Parents, api.Parent{Name: some[r.Intn(6+r.Intn(2)*r.Intn(7))]})
			}
			l = append(l, c)
		}
		e, name := wanted(l)
		seen[e]++
		checks(t, l, e, name)
	}
	for _, e := range []api.Errno{api.OK, api.ErrLimit, api.ErrName, api.ErrTwice, api.ErrNone, api.ErrCycle} {
		if seen[e] < 100 {
			t.Error(e, "was wanted only", seen[e], "times")
		}
	}
}

// The functions that return the error of Check first, and then ErrNone for names of no class (all of chapter 3 but Check, Ring and CheckRing).
func TestErrorsOfSystems(t *testing.T) {
	for text, want := range map[string]api.Errno{
		"A V W X Y Z": api.ErrLimit, "A, a": api.ErrName, "A, B A A": api.ErrTwice, "A, A": api.ErrTwice, "A X": api.ErrNone, "A B, B A": api.ErrCycle,
	} {
		for _, c := range []string{"A", "Q"} {
			fail(t, calls(system(text), c), want, append(withNames(), others()...)...)
		}
	}
	fail(t, calls(chain(api.MaxClasses+1), "C00"), api.ErrLimit, append(withNames(), others()...)...)
	for _, c := range []string{"Q", "", "a", "ANY", "NONE", "A ", "AA"} {
		results := calls(system(example), c)
		fail(t, results, api.ErrNone, withNames()...)
		for _, f := range others() {
			if results[f][0] != api.OK {
				t.Error(f, results[f])
			}
		}
		fail(t, calls(nil, c), api.ErrNone, withNames()...)
	}
	for f, r := range calls(system(example), "E") {
		if r[0] != api.OK {
			t.Error(f, r)
		}
	}
}

// The same, of the second one of two names.
func TestErrorsOfSecondNames(t *testing.T) {
	l := system(example)
	for _, n := range [][2]string{{"A", "Q"}, {"Q", "A"}, {"Q", "Q"}, {"A", "ANY"}, {"ANY", "A"}} {
		is, e1 := heir.Is(l, n[0], n[1])
		way, e2 := heir.Way(l, n[0], n[1])
		e3 := heir.CheckWay(l, n[0], n[1], []string{n[0], n[1]})
		ways, e4 := heir.Ways(l, n[0], n[1])
		least, e5 := heir.Least(l, n[0], n[1])
		if is || way != nil || ways != 0 || least != nil {
			t.Error(n, is, way, ways, least)
		}
		if got := []api.Errno{e1, e2, e3, e4, e5}; !slices.Equal(got, []api.Errno{api.ErrNone, api.ErrNone, api.ErrNone, api.ErrNone, api.ErrNone}) {
			t.Error(n, got)
		}
	}
}

// Only the names count: nothing else of classes and parents is looked at.
func TestOnlyNames(t *testing.T) {
	l := []api.Class{fullClass("A"), fullClass("B", "A"), fullClass("C", "B", "A")}
	plain := system("A, B A, C B A")
	for _, c := range names("A B C") {
		got, want := calls(l, c), calls(plain, c)
		delete(got, "Add")
		delete(want, "Add")
		delete(got, "Without")
		delete(want, "Without")
		if fmt.Sprint(got) != fmt.Sprint(want) {
			t.Errorf("%v, want %v", got, want)
		}
	}
	checks(t, []api.Class{fullClass("A", "B"), fullClass("B", "A")}, api.ErrCycle, "A")
}
