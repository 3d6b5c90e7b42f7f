package kind_test

import (
	"fmt"
	"slices"
	"strings"
	"testing"

	"cosigner/api"
	"cosigner/kind"
)

func checks(t *testing.T, l []api.Class, want api.Errno, class string) {
	t.Helper()
	if err, name := kind.Check(l); err != want || name != class {
		t.Errorf("%s: %d %q, want %d %q", systemText(l), err, name, want, class)
	}
}

// P5.1: the chapter's example, and other systems that have no error.
func TestSystemsWithoutError(t *testing.T) {
	for _, text := range []string{
		example,
		"A",
		"A [G: ANY]",
		"A [G: ANY, H: B, K: C]; B; C (B)",
		"A [G: B] (C [G]); B; C [G: B]",
		// A bound may be a descendant, or a class behind this one.
		"A [G: C]; B (A [C]); C (B)",
		// Formals of several classes may have one name.
		"A [G: ANY]; B [G: ANY] (A [G]); C [H: ANY] (B [H])",
		// An ancestor comes along several ways with the same actual types.
		"A [G: ANY]; B [G: ANY] (A [B [G]]); C [H: ANY] (A [B [H]]); D [K: ANY] (B [K], C [K])",
		"A [G: ANY]; B (A [D]); C (A [D]); D (B, C, A [D])",
		// A bound is met by a formal with this bound, or with one under it, and by any class under it.
		"X; Y (X); A [G: X]; B [G: X] (A [G]); C [G: Y] (A [G]); D (A [X]); E (A [Y]); F (A [F], Y)",
		"X; A [G: ANY]; B [G: X] (A [G]); C (A [ANY]); D [G: ANY] (A [G]); E (A [X]); F (A [A [A [E]]])",
		// A class with a formal is under a bound if it descends from it.
		"X; Y [G: ANY] (X); A [G: X]; B [H: ANY] (A [Y [H]])",
	} {
		checks(t, system(text), api.OK, "")
	}
	checks(t, nil, api.OK, "")
	checks(t, []api.Class{}, api.OK, "")
}

// P5.1: the errors of heir.Check come first, with the same names.
func TestCheckOfTheGraph(t *testing.T) {
	many := make([]api.Class, api.MaxClasses+1)
	for i := range many {
		many[i].Name = fmt.Sprintf("C%02d", i)
	}
	checks(t, many[1:], api.OK, "")
	checks(t, many, api.ErrLimit, "")
	for _, c := range []struct {
		text  string
		err   api.Errno
		class string
	}{
		{"A; B (A, C, D, E, F); C; D; E; F", api.ErrLimit, "B"},
		{"A; b", api.ErrName, "b"},
		{"A; ANY", api.ErrName, "ANY"},
		{"A; B; A", api.ErrTwice, "A"},
		{"A; B (A, A)", api.ErrTwice, "B"},
		{"A; B (C)", api.ErrNone, "B"},
		{"A; B (ANY)", api.ErrNone, "B"},
		{"A (B); B (A)", api.ErrCycle, "A"},
		{"B (B)", api.ErrCycle, "B"},
	} {
		checks(t, system(c.text), c.err, c.class)
		// Whatever is wrong with formals ahead of it.
		checks(t, append(system("W [g: ANY, g: NONE]; V [G: ANY, H: ANY, I: ANY, J: ANY] (W)"), system(c.text)...), c.err, c.class)
	}
}

// P5.1: names of formals that are none.
func TestCheckNamesOfFormals(t *testing.T) {
	for _, name := range []string{"G", "G1", "G_", "A_LONG_NAME_OF_20_BY", "Z9_9", "INTEGER1", "NONES", "AN"} {
		checks(t, []api.Class{{Name: "A", Formals: []api.Formal{{Name: name, Bound: "ANY"}}}}, api.OK, "")
	}
	for _, name := range []string{"", "g", "Gg", "1G", "_G", "G-", "G ", " G", "Ä", "GÄ", "INTEGER", "BOOLEAN", "ANY", "NONE", "A_LONG_NAME_OF_21_BYT"} {
		checks(t, []api.Class{{Name: "A", Formals: []api.Formal{{Name: name, Bound: "ANY"}}}}, api.ErrName, "A")
	}
}

// P5.1: each error of formals by itself.
func TestCheckFormals(t *testing.T) {
	for _, c := range []struct {
		text  string
		err   api.Errno
		class string
	}{
		{"A [G: ANY, H: ANY, K: ANY]", api.OK, ""},
		{"A; B [G: ANY, H: ANY, K: ANY, L: ANY]", api.ErrLimit, "B"},
		{"A; B [G: ANY, H: ANY, G: ANY]", api.ErrTwice, "B"},
		{"A; B [A: ANY]", api.ErrTwice, "B"},
		{"A; B [B: ANY]", api.ErrTwice, "B"},
		{"A; B [C: ANY]; C", api.ErrTwice, "B"},
		{"A; B [G: C]", api.ErrNone, "B"},
		{"A; B [G: NONE]", api.ErrNone, "B"},
		{"A; B [G: INTEGER]", api.ErrNone, "B"},
		{"A; B [G: ]", api.ErrNone, "B"},
		{"A; B [G: ANY, H: G]", api.ErrNone, "B"},
		{"A; B [G: B]", api.ErrType, "B"},
		{"A; B [G: C]; C [G: ANY]", api.ErrType, "B"},
	} {
		checks(t, system(c.text), c.err, c.class)
	}
}

// P5.1: the order of the errors of formals.
func TestCheckOrderOfFormals(t *testing.T) {
	for _, c := range []struct {
		text  string
		err   api.Errno
		class string
	}{
		// Too many come first, but those of a class ahead come before.
		{"A [g: ANY, G: NONE, H: ANY, K: ANY]", api.ErrLimit, "A"},
		{"A [g: ANY]; B [G: ANY, H: ANY, K: ANY, L: ANY]", api.ErrName, "A"},
		{"A [G: ANY]; B [G: ANY, H: ANY, K: ANY, L: ANY]; C [g: ANY]", api.ErrLimit, "B"},
		// Of one formal: its name, whether it is there twice, whether there is its bound, and that it has no formals.
		{"A [g: ANY, g: NONE]", api.ErrName, "A"},
		{"A [G: ANY, G: NONE]", api.ErrTwice, "A"},
		{"A [A: NONE]", api.ErrTwice, "A"},
		{"A [A: A]", api.ErrTwice, "A"},
		// All errors of a formal come before those of the next one.
		{"A [G: NONE, g: ANY]", api.ErrNone, "A"},
		{"A [G: A, A: ANY]", api.ErrType, "A"},
		{"A [G: ANY, H: NONE, H: ANY]", api.ErrNone, "A"},
		{"A [A: ANY, g: ANY]", api.ErrTwice, "A"},
		// Classes come in the order of the list, not in that of heir.Order.
		{"Z [G: NONE]; A [g: ANY]", api.ErrNone, "Z"},
		{"B [G: NONE] (A); A [g: ANY]", api.ErrNone, "B"},
		// Formals of all classes come ahead of parents.
		{"A; B (A [A]); C [G: C]", api.ErrType, "C"},
		{"A [G: ANY]; B (A); C [g: ANY]", api.ErrName, "C"},
	} {
		checks(t, system(c.text), c.err, c.class)
	}
}

// P5.1: each error of the actual types of parents, and their order.
func TestCheckParents(t *testing.T) {
	const classes = "X; Y (X); L [G: ANY]; S [G: X]; P [G: ANY, H: X]; "
	for _, c := range []struct {
		text  string
		err   api.Errno
		class string
	}{
		{"A (X [X])", api.ErrType, "A"},
		{"A (L)", api.ErrType, "A"},
		{"A (L [X, X])", api.ErrType, "A"},
		{"A (P [X])", api.ErrType, "A"},
		{"A (P [X, X, X])", api.ErrType, "A"},
		{"A (L [INTEGER])", api.ErrType, "A"},
		{"A (L [BOOLEAN])", api.ErrType, "A"},
		{"A (L [Void])", api.ErrType, "A"},
		{"A (L [detachable X])", api.ErrType, "A"},
		{"A (L [separate X])", api.ErrType, "A"},
		{"A [K: ANY] (L [detachable K])", api.ErrType, "A"},
		{"A [K: ANY] (L [separate K])", api.ErrType, "A"},
		{"A (L [Z])", api.ErrNone, "A"},
		{"A (L [NONE])", api.ErrNone, "A"},
		{"A [K: ANY] (L ['H])", api.ErrNone, "A"},
		// The formal of the parent is none of the class.
		{"A [K: ANY] (L ['G])", api.ErrNone, "A"},
		{"A [K: ANY] (L [K [X]])", api.ErrForm, "A"},
		{"A (L [X [X]])", api.ErrType, "A"},
		{"A (L [ANY [X]])", api.ErrType, "A"},
		{"A (L [L])", api.ErrType, "A"},
		{"A (L [L [INTEGER]])", api.ErrType, "A"},
		{"A (L [L [detachable X]])", api.ErrType, "A"},
		{"A (L [L [Z]])", api.ErrNone, "A"},
		{"A (S [L [X]])", api.ErrType, "A"},
		{"A (S [ANY])", api.ErrType, "A"},
		{"A (S [A])", api.ErrType, "A"},
		{"A (S [A], X)", api.OK, ""},
		{"A (S [B]); B (Y)", api.OK, ""},
		{"A [K: ANY] (S [K])", api.ErrType, "A"},
		{"A [K: L] (S [K])", api.ErrType, "A"},
		{"A [K: Y] (S [K])", api.OK, ""},
		{"A (P [Y, Y])", api.OK, ""},
		{"A (P [Y, ANY])", api.ErrType, "A"},
		{"A (L [S [ANY]])", api.ErrType, "A"},
		{"A (L [S [Y]])", api.OK, ""},
		// All errors of an actual type come before those of the next one, and of a parent before those of the next one.
		{"A (P [Z, INTEGER])", api.ErrNone, "A"},
		{"A (P [INTEGER, Z])", api.ErrType, "A"},
		{"A (L [Z], S)", api.ErrNone, "A"},
		{"A (S, L [Z])", api.ErrType, "A"},
		{"A (P [Z])", api.ErrType, "A"},
		// Within a type: that it is none for a formal, its own error, and that it conforms to no bound.
		{"A (S [detachable Z])", api.ErrType, "A"},
		{"A (S [Z])", api.ErrNone, "A"},
		{"A (S [L [Z]])", api.ErrNone, "A"},
		// Classes come in the order of the list.
		{"B (L, A); A (L [Z])", api.ErrType, "B"},
		{"B (L [Z], A); A (L)", api.ErrNone, "B"},
	} {
		checks(t, system(classes+c.text), c.err, c.class)
	}
	l := system(classes + "A (L [X])")
	for _, k := range []int{-1, 5} {
		l[5].Parents[0].Args[0].Kind = k
		checks(t, l, api.ErrType, "A")
	}
}

// P5.1: actual types of parents that are nested to the limit, and deeper.
func TestCheckNesting(t *testing.T) {
	const classes = "X; L [G: ANY]; P [G: ANY, H: X]; "
	most, more := nested("L", api.MaxNest, "X"), nested("L", api.MaxNest+1, "X")
	for _, c := range []struct {
		text  string
		err   api.Errno
		class string
	}{
		{"A (L [" + most + "])", api.OK, ""},
		{"A (L [" + more + "])", api.ErrLimit, "A"},
		// It comes ahead of whatever is wrong with this type, and behind what is with the one before.
		{"A (L [" + nested("Z", api.MaxNest+1, "X") + "])", api.ErrLimit, "A"},
		{"A (L [detachable " + more + "])", api.ErrLimit, "A"},
		{"A (L [" + nested("INTEGER", api.MaxNest+1, "X") + "])", api.ErrLimit, "A"},
		{"A (P [" + more + ", Z])", api.ErrLimit, "A"},
		{"A (P [Z, " + more + "])", api.ErrNone, "A"},
		{"A (P [" + more + "])", api.ErrType, "A"},
		{"A (L [Z]); B (L [" + more + "])", api.ErrNone, "A"},
	} {
		checks(t, system(classes+c.text), c.err, c.class)
	}
}

// wide returns a text of a type of so many parts, each with at most two actual types.
func wide(parts int) string {
	switch parts {
	case 1:
		return "X"
	case 2:
		return "L [X]"
	}
	return "P [" + wide((parts-1)/2) + ", " + wide(parts-1-(parts-1)/2) + "]"
}

// P5.1: what an ancestor's formals are has at most MaxKindParts types.
func TestCheckParts(t *testing.T) {
	const classes = "X; L [G: ANY]; P [G: ANY, H: ANY]; "
	const more = api.MaxKindParts + 1
	for _, c := range []struct {
		text  string
		err   api.Errno
		class string
	}{
		{"A (L [" + wide(more-1) + "])", api.OK, ""},
		{"A (L [" + wide(more) + "])", api.ErrLimit, "A"},
		// All actual types count together.
		{"A (P [" + wide(200) + ", " + wide(200) + "])", api.OK, ""},
		{"A (P [" + wide(200) + ", " + wide(201) + "])", api.ErrLimit, "A"},
		{"A (P [X, " + wide(399) + "])", api.OK, ""},
		{"A (P [X, " + wide(400) + "])", api.ErrLimit, "A"},
		// Formals that are replaced count as what they become.
		{"Q [G: ANY] (P [G, L [G]]); A (Q [" + wide(199) + "])", api.OK, ""},
		{"Q [G: ANY] (P [G, L [G]]); A (Q [" + wide(200) + "])", api.ErrLimit, "A"},
		{"Q [G: ANY] (L [P [G, G]]); R [H: ANY] (Q [P [H, H]]); A [K: ANY] (R [K])", api.OK, ""},
		{"Q [G: ANY] (L [P [P [G, G], P [G, G]]]); R [H: ANY] (Q [" + strings.ReplaceAll(wide(99), "X", "H") + "]); A (R [X])", api.OK, ""},
		{"Q [G: ANY] (L [P [P [G, G], P [G, G]]]); R [H: ANY] (Q [" + strings.ReplaceAll(wide(100), "X", "H") + "]); A (R [X])", api.ErrLimit, "R"},
		// The parent's own formals are what is too much, or those of its ancestors.
		{"Q [G: ANY]; A (Q [" + wide(more) + "])", api.ErrLimit, "A"},
		{"Q [G: ANY] (L [G]); A (Q [" + wide(more-1) + "])", api.OK, ""},
		{"Q [G: ANY] (L [L [G]]); A (Q [" + wide(more-1) + "])", api.ErrLimit, "A"},
		// What has no place in an ancestor's formals does not count there.
		{"Q [G: ANY] (X); A (Q [" + wide(more-1) + "])", api.OK, ""},
	} {
		checks(t, system(classes+c.text), c.err, c.class)
	}
	checks(t, system(classes+"D1 [G: ANY] (P [G, G]); D2 [G: ANY] (D1 [P [G, G]]); D3 [G: ANY] (D2 [P [G, G]]); D4 [G: ANY] (D3 [P [G, G]]); D5 [G: ANY] (D4 [P [G, G]]); D6 [G: ANY] (D5 [P [G, G]]); D7 [G: ANY] (D6 [P [G, G]]); D8 [G: ANY] (D7 [P [G, G]]); D9 [G: ANY] (D8 [P [G, G]])"), api.ErrLimit, "D8")
}

// P5.1: an ancestor that comes with other actual types.
func TestCheckClashes(t *testing.T) {
	const classes = "X; Y (X); L [G: ANY]; P [G: ANY, H: ANY]; "
	for _, c := range []struct {
		text  string
		err   api.Errno
		class string
	}{
		{"A (L [X]); B (L [Y]); C (A, B)", api.ErrClash, "C"},
		{"A (L [X]); B (L [X]); C (A, B)", api.OK, ""},
		{"A (L [X]); B (A, L [X])", api.OK, ""},
		{"A (L [X]); B (A, L [Y])", api.ErrClash, "B"},
		{"A (L [X]); B (L [Y], A)", api.ErrClash, "B"},
		{"A [G: ANY] (L [G]); B [G: ANY] (L [G]); C [G: ANY, H: ANY] (A [G], B [G])", api.OK, ""},
		{"A [G: ANY] (L [G]); B [G: ANY] (L [G]); C [G: ANY, H: ANY] (A [G], B [H])", api.ErrClash, "C"},
		{"A [G: ANY] (L [G]); B [G: ANY] (L [L [G]]); C (A [L [X]], B [X])", api.OK, ""},
		{"A [G: ANY] (L [G]); B [G: ANY] (L [L [G]]); C (A [L [Y]], B [X])", api.ErrClash, "C"},
		{"A (P [X, Y]); B (P [X, X]); C (A, B)", api.ErrClash, "C"},
		{"A (P [X, Y]); B (P [Y, Y]); C (A, B)", api.ErrClash, "C"},
		// The third way is another one.
		{"A (L [X]); B (L [X]); C (L [Y]); D (A, B, C)", api.ErrClash, "D"},
		{"A (L [X]); B (L [Y]); C (L [X]); D (A, C, B)", api.ErrClash, "D"},
		// It is told at the first class of heir.Order that has it, not of the list, and at no descendant of it.
		{"D (C); C (A, B); B (L [Y]); A (L [X])", api.ErrClash, "C"},
		{"E (A, B); C (A, B); B (L [Y]); A (L [X])", api.ErrClash, "C"},
		// Parents of all classes come ahead of it.
		{"A (L [X]); B (L [Y]); C (A, B); D (L)", api.ErrType, "D"},
		{"A (L [X]); B (L [Y]); C (A, B); D (L [Z])", api.ErrNone, "D"},
	} {
		checks(t, system(classes+c.text), c.err, c.class)
	}
}

// P5.1: clashes, and actual types that are too many, in the order of the classes, the parents and their ancestors.
func TestCheckOrderOfInstances(t *testing.T) {
	const classes = "X; Y (X); L [G: ANY]; P [G: ANY, H: ANY]; K [G: ANY]; M [G: ANY] (L [X], K [P [G, G]]); N [G: ANY] (K [P [G, G]], L [X]); "
	long := wide(200)
	for _, c := range []struct {
		text  string
		err   api.Errno
		class string
	}{
		// By M an L that clashes comes ahead of a K that is too long, by N behind it.
		{"A (L [Y], M [" + long + "])", api.ErrClash, "A"},
		{"A (L [Y], N [" + long + "])", api.ErrLimit, "A"},
		{"A (L [X], M [" + long + "])", api.ErrLimit, "A"},
		{"A (L [Y], M [X])", api.ErrClash, "A"},
		{"A (L [Y], N [X])", api.ErrClash, "A"},
		// All ancestors of a parent come ahead of the next parent.
		{"A (M [" + long + "], L [Y])", api.ErrLimit, "A"},
		{"B (L [Y]); A (M [X], B, N [" + long + "])", api.ErrClash, "A"},
		{"B (L [Y]); A (M [X], N [" + long + "], B)", api.ErrLimit, "A"},
		// What is too long is so ahead of being another one.
		{"A (K [X], M [" + long + "])", api.ErrLimit, "A"},
		{"A (M [" + wide(199) + "], K [X])", api.ErrClash, "A"},
		// The class that comes first in heir.Order.
		{"C (L [Y], M [X]); B (M [" + long + "])", api.ErrLimit, "B"},
		{"B (L [Y], M [X]); C (M [" + long + "])", api.ErrClash, "B"},
	} {
		checks(t, system(classes+c.text), c.err, c.class)
	}
}

// Terms: nothing else of a class is looked at.
func TestCheckLooksAtHeadersAlone(t *testing.T) {
	l := system(example)
	for i := range l {
		l[i].Deferred = true
		l[i].Create = []string{"A", ""}
		l[i].Features = slices.Repeat([]api.Feature{{Name: "X", Kind: 9, Type: typed("Z [Z]")}}, 2*api.MaxMembers)
		l[i].Invariant = []api.Clause{{Tag: "Z"}}
		for j := range l[i].Parents {
			p := &l[i].Parents[j]
			p.Rename, p.Undefine, p.Redefine, p.Select = []api.Pair{{From: "Z"}}, []string{"Z"}, []string{"Z"}, []string{"Z"}
		}
	}
	checks(t, l, api.OK, "")
	if is, err := kind.Conforms(l, "LIST", in(l, "LIST", "WORDS"), in(l, "LIST", "LIST [TEXT]")); !is || err != api.OK {
		t.Error(is, err)
	}
}
