package kind_test

import (
	"testing"

	"cosigner/api"
	"cosigner/kind"
)

// family is a system whose formals change their names, their order and their number on the ways to ancestors, some of which come along several ways.
const family = "X; Y (X); A [G: ANY, H: ANY]; B [K: ANY, L: X] (A [L, K]); C [M: Y] (B [LIST [M], M]); D (C [Y], X); E [G: ANY] (A [G, E [G]]); " +
	"F [G: Y] (X, C [G], B [LIST [G], G], A [G, LIST [G]]); LIST [G: ANY]"

// P5.4
func TestInstance(t *testing.T) {
	for _, c := range []struct{ system, class, text, ancestor, want string }{
		{example, "WORDS", "WORDS", "LIST", "TEXT"},
		{example, "SORTED", "SORTED [H]", "LIST", "'H"},
		{example, "WORDS", "WORDS", "SORTED", "TEXT"},
		{example, "WORDS", "WORDS", "WORDS", ""},
		{example, "WORDS", "WORDS", "ANY", ""},
		{example, "WORDS", "SORTED [TEXT]", "SORTED", "TEXT"},
		{example, "WORDS", "ANY", "ANY", ""},
		{example, "WORDS", "TEXT", "COMPARABLE", ""},
		{example, "BAG", "BAG [G]", "LIST", "'G"},
		{example, "BAG", "BAG [BAG [G]]", "LIST", "BAG ['G]"},
		{family, "B", "B [K, L]", "A", "'L, 'K"},
		{family, "B", "B [X, Y]", "A", "Y, X"},
		{family, "C", "C [M]", "B", "LIST ['M], 'M"},
		{family, "C", "C [M]", "A", "'M, LIST ['M]"},
		{family, "C", "C [Y]", "A", "Y, LIST [Y]"},
		{family, "D", "D", "C", "Y"},
		{family, "D", "D", "B", "LIST [Y], Y"},
		{family, "D", "D", "A", "Y, LIST [Y]"},
		{family, "D", "D", "X", ""},
		{family, "E", "E [G]", "A", "'G, E ['G]"},
		{family, "E", "E [E [X]]", "A", "E [X], E [E [X]]"},
		{family, "F", "F [G]", "A", "'G, LIST ['G]"},
		{family, "F", "F [Y]", "B", "LIST [Y], Y"},
		// The formals of the type stay, whose ever they are, and so does whatever it has.
		{family, "X", "B ['L, 'K]", "A", "'K, 'L"},
		{family, "X", "B ['Z, detachable separate Z [Z]]", "A", "detachable separate Z [Z], 'Z"},
		{family, "X", "C [INTEGER]", "A", "INTEGER, LIST [INTEGER]"},
		{family, "X", "C [Void]", "B", "LIST [Void], Void"},
		{family, "X", "C [" + nested("LIST", 2*api.MaxNest, "Z") + "]", "C", nested("LIST", 2*api.MaxNest, "Z")},
		// Whether the type itself is detachable or separate does not count.
		{example, "WORDS", "detachable separate WORDS", "LIST", "TEXT"},
		{example, "WORDS", "detachable separate ANY", "ANY", ""},
	} {
		l := system(c.system)
		args, err := kind.Instance(l, in(l, c.class, c.text), c.ancestor)
		if err != api.OK || typesText(args) != c.want {
			t.Errorf("%s, %s: %s %d, want %s", c.text, c.ancestor, typesText(args), err, c.want)
		}
	}
}

// P5.4: errors, and their order; P5.5 has the same for its target.
func TestInstanceErrors(t *testing.T) {
	l := system(example)
	for _, c := range []struct {
		text, ancestor string
		want           api.Errno
	}{
		{"Void", "LIST", api.ErrType},
		{"INTEGER", "LIST", api.ErrType},
		{"BOOLEAN", "ANY", api.ErrType},
		{"'H", "LIST", api.ErrType},
		{"'LIST", "LIST", api.ErrType},
		{"'H", "ANY", api.ErrType},
		{"'ANY", "ANY", api.ErrType},
		{"Z", "LIST", api.ErrType},
		{"Z", "Z", api.ErrType},
		{"Z", "ANY", api.ErrType},
		{"", "", api.ErrType},
		{"NONE", "ANY", api.ErrType},
		{"LIST", "LIST", api.ErrType},
		{"LIST [TEXT, TEXT]", "LIST", api.ErrType},
		{"WORDS [TEXT]", "LIST", api.ErrType},
		{"ANY [TEXT]", "ANY", api.ErrType},
		{"LIST", "Z", api.ErrType},
		{"WORDS", "Z", api.ErrNone},
		{"WORDS", "", api.ErrNone},
		{"WORDS", "H", api.ErrNone},
		{"WORDS", "TEXT", api.ErrNone},
		{"WORDS", "BAG", api.ErrNone},
		{"LIST [TEXT]", "WORDS", api.ErrNone},
		{"LIST [WORDS]", "WORDS", api.ErrNone},
		{"ANY", "LIST", api.ErrNone},
		{"ANY", "Z", api.ErrNone},
		{"ANY", "", api.ErrNone},
	} {
		for _, u := range []api.Type{typed(c.text), typed("detachable " + c.text)} {
			fail(t, calls(l, "LIST", u, typed("Z [detachable Z]"), c.ancestor, "G"), c.want, "Instance", "Seen")
		}
	}
	odd := api.Type{Kind: 5, Name: "WORDS"}
	fail(t, calls(l, "LIST", odd, typed("Void"), "LIST", "G"), api.ErrType, "Instance", "Seen")
}

// P5.5
func TestSeen(t *testing.T) {
	for _, c := range []struct{ system, class, target, owner, text, want string }{
		{example, "WORDS", "WORDS", "LIST", "detachable G", "detachable TEXT"},
		{example, "WORDS", "WORDS", "LIST", "G", "TEXT"},
		{example, "WORDS", "WORDS", "SORTED", "detachable LIST [H]", "detachable LIST [TEXT]"},
		{example, "WORDS", "WORDS", "WORDS", "separate WORDS", "separate WORDS"},
		{example, "WORDS", "LIST [TEXT]", "LIST", "INTEGER", "INTEGER"},
		{example, "WORDS", "LIST [TEXT]", "LIST", "BOOLEAN", "BOOLEAN"},
		{example, "WORDS", "LIST [TEXT]", "LIST", "Void", "Void"},
		{example, "WORDS", "LIST [TEXT]", "LIST", "ANY", "ANY"},
		{example, "SORTED", "SORTED [H]", "LIST", "BAG [LIST [G]]", "BAG [LIST ['H]]"},
		{family, "C", "C [M]", "A", "detachable H", "detachable LIST ['M]"},
		{family, "D", "D", "A", "E [A [H, G]]", "E [A [LIST [Y], Y]]"},
		{family, "D", "D", "A", "separate E [H]", "separate E [LIST [Y]]"},
		// Nothing is asked of what the target has.
		{family, "D", "LIST [detachable Z]", "LIST", "G", "detachable Z"},
		{family, "D", "LIST [separate Z]", "LIST", "detachable G", "detachable separate Z"},
		{family, "D", "C [INTEGER]", "A", "H", "LIST [INTEGER]"},
		{family, "D", "LIST ['G]", "LIST", "G", "'G"},
		{family, "D", "detachable separate LIST [Y]", "LIST", "G", "Y"},
	} {
		l := system(c.system)
		u, err := kind.Seen(l, in(l, c.class, c.target), c.owner, in(l, c.owner, c.text))
		if err != api.OK || typeText(u) != c.want {
			t.Errorf("%s at %s of %s: %s %d, want %s", c.text, c.target, c.owner, typeText(u), err, c.want)
		}
	}
}

// P5.5: the error of the type in the owner comes last; ANY is no class in which a type stands.
func TestSeenErrors(t *testing.T) {
	l := system(example)
	for _, c := range []struct {
		target, owner, text string
		want                api.Errno
	}{
		{"WORDS", "LIST", "'H", api.ErrNone},
		{"WORDS", "LIST", "separate 'G", api.ErrForm},
		{"WORDS", "LIST", "SORTED ['G]", api.ErrType},
		{"WORDS", "LIST", nested("LIST", api.MaxNest+1, "'G"), api.ErrLimit},
		{"WORDS", "LIST", nested("LIST", api.MaxNest, "'G"), api.OK},
		{"WORDS", "SORTED", "SORTED ['H]", api.OK},
		{"WORDS", "ANY", "TEXT", api.ErrNone},
		{"ANY", "ANY", "TEXT", api.ErrNone},
		{"ANY", "ANY", "Void", api.ErrNone},
		{"WORDS", "ANY", "LIST", api.ErrNone},
		{"LIST", "LIST", "separate 'G", api.ErrType},
		{"WORDS", "BAG", "separate 'G", api.ErrNone},
	} {
		fail(t, calls(l, "LIST", typed(c.target), typed(c.text), c.owner, "G"), c.want, "Seen")
	}
}

// P5.6
func TestSupers(t *testing.T) {
	for _, c := range []struct{ system, class, text, want string }{
		{example, "WORDS", "WORDS", "WORDS, SORTED [TEXT], LIST [TEXT], ANY"},
		{example, "WORDS", "detachable WORDS", "detachable WORDS, detachable SORTED [TEXT], detachable LIST [TEXT], detachable ANY"},
		{example, "WORDS", "separate TEXT", "separate TEXT, separate COMPARABLE, separate ANY"},
		{example, "WORDS", "detachable separate TEXT", "detachable separate TEXT, detachable separate COMPARABLE, detachable separate ANY"},
		{example, "WORDS", "LIST [LIST [TEXT]]", "LIST [LIST [TEXT]], ANY"},
		{example, "WORDS", "ANY", "ANY"},
		{example, "WORDS", "detachable ANY", "detachable ANY"},
		{example, "WORDS", "separate ANY", "separate ANY"},
		{example, "SORTED", "H", "COMPARABLE, ANY"},
		{example, "SORTED", "detachable H", "detachable COMPARABLE, detachable ANY"},
		{example, "SORTED", "SORTED [H]", "SORTED ['H], LIST ['H], ANY"},
		{example, "LIST", "G", "ANY"},
		{example, "LIST", "detachable G", "detachable ANY"},
		{example, "LIST", "INTEGER", ""},
		{example, "LIST", "BOOLEAN", ""},
		{example, "LIST", "Void", ""},
		// The others stand in the reverse order of heir.Above.
		{family, "D", "D", "D, X, C [Y], B [LIST [Y], Y], A [Y, LIST [Y]], ANY"},
		{family, "F", "F [G]", "F ['G], C ['G], B [LIST ['G], 'G], A ['G, LIST ['G]], X, ANY"},
		{family, "F", "separate F [Y]", "separate F [Y], separate C [Y], separate B [LIST [Y], Y], separate A [Y, LIST [Y]], separate X, separate ANY"},
		{family, "E", "E [E [G]]", "E [E ['G]], A [E ['G], E [E ['G]]], ANY"},
		{family, "C", "M", "Y, X, ANY"},
		{"X; Y (X); Z (Y, X); A [G: Z]", "A", "detachable G", "detachable Z, detachable Y, detachable X, detachable ANY"},
	} {
		l := system(c.system)
		all, err := kind.Supers(l, c.class, in(l, c.class, c.text))
		if err != api.OK || typesText(all) != c.want {
			t.Errorf("%s, in %s: %s %d, want %s", c.text, c.class, typesText(all), err, c.want)
		}
	}
}

// P5.6, P5.9: what an ancestor's formals are may be nested deeper than a type that is handed in.
func TestDeepSupers(t *testing.T) {
	l := system("X; L [G: ANY]; A [G: ANY] (L [" + nested("L", api.MaxNest, "G") + "]); B [G: ANY] (A [G])")
	u := typed(nested("A", api.MaxNest, "X"))
	all, err := kind.Supers(l, "X", u)
	if err != api.OK || len(all) != 3 || typeText(all[1]) != "L ["+nested("L", api.MaxNest, nested("A", api.MaxNest-1, "X"))+"]" {
		t.Error(typesText(all), err)
	}
	b := u
	b.Name = "B"
	if least, err := kind.Joins(l, "X", u, b); err != api.OK || len(least) != 1 || !kind.Same(least[0], u) {
		t.Error(typesText(least), err)
	}
	if is, err := kind.Conforms(l, "X", b, u); !is || err != api.OK {
		t.Error(is, err)
	}
}
