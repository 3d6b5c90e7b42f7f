package kind_test

import (
	"slices"
	"strings"
	"testing"

	"cosigner/api"
	"cosigner/kind"
)

// reasons checks why a type conforms to another one, or does not.
func reasons(t *testing.T, l []api.Class, class, s, u string, rule int, way string) {
	t.Helper()
	a, b := in(l, class, s), in(l, class, u)
	want := api.Reason{Rule: rule, Way: strings.Fields(way)}
	if why, err := kind.Why(l, class, a, b); err != api.OK || !alike(why, want) {
		t.Errorf("%s to %s, in %s: %v %d, want %v", s, u, class, why, err, want)
	}
	if is, err := kind.Conforms(l, class, a, b); is != (rule < api.NoVoid) || err != api.OK {
		t.Errorf("%s to %s, in %s: %t %d", s, u, class, is, err)
	}
	if err := kind.CheckWhy(l, class, a, b, want); err != api.OK {
		t.Errorf("%s to %s, in %s, %v: %d", s, u, class, want, err)
	}
}

// P5.7, P5.8: the chapter's examples.
func TestWhyExamples(t *testing.T) {
	l := system(example)
	reasons(t, l, "WORDS", "WORDS", "LIST [TEXT]", api.RuWay, "WORDS SORTED LIST")
	reasons(t, l, "WORDS", "WORDS", "detachable LIST [COMPARABLE]", api.NoArgs, "WORDS SORTED LIST")
	reasons(t, l, "SORTED", "H", "COMPARABLE", api.RuWay, "COMPARABLE")
	reasons(t, l, "SORTED", "H", "H", api.RuFormal, "")
	reasons(t, l, "WORDS", "Void", "TEXT", api.NoVoid, "")
	reasons(t, l, "WORDS", "Void", "detachable TEXT", api.RuVoid, "")
}

// P5.7, P5.8: each rule.
func TestWhy(t *testing.T) {
	l := system(example + "; PAIR [K: TEXT, V: ANY]; SUB [S: TEXT, U: ANY] (PAIR [S, U])")
	for _, c := range []struct {
		class, s, t string
		rule        int
		way         string
	}{
		// Plain types.
		{"WORDS", "INTEGER", "INTEGER", api.RuInt, ""},
		{"WORDS", "BOOLEAN", "BOOLEAN", api.RuInt, ""},
		{"WORDS", "INTEGER", "BOOLEAN", api.NoKind, ""},
		{"WORDS", "BOOLEAN", "INTEGER", api.NoKind, ""},
		{"WORDS", "INTEGER", "ANY", api.NoKind, ""},
		{"WORDS", "INTEGER", "detachable ANY", api.NoKind, ""},
		{"WORDS", "BOOLEAN", "separate TEXT", api.NoKind, ""},
		{"WORDS", "TEXT", "INTEGER", api.NoKind, ""},
		{"WORDS", "detachable TEXT", "INTEGER", api.NoKind, ""},
		{"WORDS", "separate TEXT", "BOOLEAN", api.NoKind, ""},
		{"SORTED", "INTEGER", "H", api.NoKind, ""},
		{"SORTED", "H", "BOOLEAN", api.NoKind, ""},
		{"SORTED", "detachable H", "INTEGER", api.NoKind, ""},
		// Void's type.
		{"WORDS", "Void", "Void", api.NoKind, ""},
		{"WORDS", "TEXT", "Void", api.NoKind, ""},
		{"WORDS", "detachable separate TEXT", "Void", api.NoKind, ""},
		{"SORTED", "detachable H", "Void", api.NoKind, ""},
		{"WORDS", "INTEGER", "Void", api.NoKind, ""},
		{"WORDS", "Void", "INTEGER", api.NoKind, ""},
		{"WORDS", "Void", "BOOLEAN", api.NoKind, ""},
		{"WORDS", "Void", "ANY", api.NoVoid, ""},
		{"WORDS", "Void", "separate ANY", api.NoVoid, ""},
		{"WORDS", "Void", "detachable ANY", api.RuVoid, ""},
		{"WORDS", "Void", "detachable separate LIST [TEXT]", api.RuVoid, ""},
		{"SORTED", "Void", "H", api.NoVoid, ""},
		{"SORTED", "Void", "detachable H", api.RuVoid, ""},
		// To ANY.
		{"WORDS", "TEXT", "ANY", api.RuAny, ""},
		{"WORDS", "ANY", "ANY", api.RuAny, ""},
		{"WORDS", "ANY", "detachable separate ANY", api.RuAny, ""},
		{"WORDS", "separate TEXT", "separate ANY", api.RuAny, ""},
		{"WORDS", "detachable TEXT", "ANY", api.NoVoid, ""},
		{"WORDS", "separate TEXT", "ANY", api.NoSep, ""},
		{"WORDS", "detachable separate TEXT", "ANY", api.NoVoid, ""},
		{"WORDS", "detachable separate TEXT", "detachable ANY", api.NoSep, ""},
		{"WORDS", "detachable separate TEXT", "separate ANY", api.NoVoid, ""},
		{"SORTED", "H", "ANY", api.RuAny, ""},
		{"LIST", "G", "ANY", api.RuAny, ""},
		{"LIST", "detachable G", "ANY", api.NoVoid, ""},
		{"LIST", "detachable G", "detachable separate ANY", api.RuAny, ""},
		// From ANY.
		{"WORDS", "ANY", "TEXT", api.NoClass, ""},
		{"WORDS", "ANY", "LIST [ANY]", api.NoClass, ""},
		{"LIST", "G", "TEXT", api.NoClass, ""},
		{"LIST", "ANY", "G", api.NoKind, ""},
		// Formals.
		{"SORTED", "H", "detachable H", api.RuFormal, ""},
		{"SORTED", "detachable H", "detachable H", api.RuFormal, ""},
		{"SORTED", "detachable H", "H", api.NoVoid, ""},
		{"PAIR", "K", "V", api.NoKind, ""},
		{"PAIR", "V", "K", api.NoKind, ""},
		{"PAIR", "detachable K", "V", api.NoVoid, ""},
		{"PAIR", "detachable K", "detachable V", api.NoKind, ""},
		{"SORTED", "COMPARABLE", "H", api.NoKind, ""},
		{"SORTED", "detachable COMPARABLE", "H", api.NoVoid, ""},
		{"SORTED", "separate COMPARABLE", "H", api.NoSep, ""},
		{"SORTED", "separate COMPARABLE", "detachable H", api.NoSep, ""},
		{"PAIR", "K", "TEXT", api.RuWay, "TEXT"},
		{"PAIR", "K", "COMPARABLE", api.RuWay, "TEXT COMPARABLE"},
		{"PAIR", "K", "separate COMPARABLE", api.RuWay, "TEXT COMPARABLE"},
		{"PAIR", "detachable K", "detachable COMPARABLE", api.RuWay, "TEXT COMPARABLE"},
		{"PAIR", "detachable K", "COMPARABLE", api.NoVoid, ""},
		{"PAIR", "K", "WORDS", api.NoClass, ""},
		{"PAIR", "K", "LIST [K]", api.NoClass, ""},
		{"PAIR", "V", "COMPARABLE", api.NoClass, ""},
		// Class types.
		{"WORDS", "TEXT", "TEXT", api.RuWay, "TEXT"},
		{"WORDS", "TEXT", "detachable separate TEXT", api.RuWay, "TEXT"},
		{"WORDS", "detachable separate TEXT", "detachable separate COMPARABLE", api.RuWay, "TEXT COMPARABLE"},
		{"WORDS", "detachable TEXT", "TEXT", api.NoVoid, ""},
		{"WORDS", "separate TEXT", "TEXT", api.NoSep, ""},
		{"WORDS", "separate TEXT", "detachable TEXT", api.NoSep, ""},
		{"WORDS", "detachable separate TEXT", "separate TEXT", api.NoVoid, ""},
		{"WORDS", "COMPARABLE", "TEXT", api.NoClass, ""},
		{"WORDS", "LIST [TEXT]", "WORDS", api.NoClass, ""},
		{"WORDS", "detachable LIST [TEXT]", "WORDS", api.NoVoid, ""},
		{"WORDS", "LIST [TEXT]", "TEXT", api.NoClass, ""},
		{"WORDS", "LIST [TEXT]", "BAG [TEXT]", api.NoClass, ""},
		{"WORDS", "LIST [TEXT]", "LIST [TEXT]", api.RuWay, "LIST"},
		{"WORDS", "LIST [TEXT]", "LIST [COMPARABLE]", api.NoArgs, "LIST"},
		{"WORDS", "LIST [COMPARABLE]", "LIST [TEXT]", api.NoArgs, "LIST"},
		{"WORDS", "LIST [WORDS]", "LIST [LIST [TEXT]]", api.NoArgs, "LIST"},
		{"WORDS", "LIST [TEXT]", "LIST [ANY]", api.NoArgs, "LIST"},
		{"WORDS", "BAG [LIST [TEXT]]", "LIST [LIST [TEXT]]", api.RuWay, "BAG LIST"},
		{"WORDS", "BAG [LIST [TEXT]]", "LIST [LIST [ANY]]", api.NoArgs, "BAG LIST"},
		{"WORDS", "separate WORDS", "separate SORTED [COMPARABLE]", api.NoArgs, "WORDS SORTED"},
		{"SORTED", "SORTED [H]", "LIST [H]", api.RuWay, "SORTED LIST"},
		{"SORTED", "SORTED [H]", "LIST [COMPARABLE]", api.NoArgs, "SORTED LIST"},
		{"SUB", "SUB [S, U]", "PAIR [S, U]", api.RuWay, "SUB PAIR"},
		{"SUB", "SUB [S, U]", "PAIR [S, S]", api.NoArgs, "SUB PAIR"},
		{"SUB", "SUB [S, U]", "PAIR [TEXT, U]", api.NoArgs, "SUB PAIR"},
	} {
		reasons(t, l, c.class, c.s, c.t, c.rule, c.way)
	}
}

// diamond has several ways to X, all with the same actual types.
const diamond = "X [G: ANY]; A [G: ANY] (X [G]); B [G: ANY] (X [G]); C [G: ANY] (B [G], A [G]); D [G: ANY] (C [G], B [G]); T; F [G: T]; S (T, R); R (T); U (S, R); V [G: S]"

// P5.8: of several ways Why has that of heir.Way, and CheckWhy accepts each one, but nothing else.
func TestSeveralWays(t *testing.T) {
	l := system(diamond)
	for _, c := range []struct {
		class, s, t string
		rule        int
		way         string
		others      []string
	}{
		{"T", "C [T]", "X [T]", api.RuWay, "C A X", []string{"C B X"}},
		{"T", "C [T]", "X [S]", api.NoArgs, "C A X", []string{"C B X"}},
		{"T", "D [T]", "X [T]", api.RuWay, "D B X", []string{"D C A X", "D C B X"}},
		{"T", "D [T]", "B [S]", api.NoArgs, "D B", []string{"D C B"}},
		{"V", "G", "T", api.RuWay, "S T", []string{"S R T"}},
		{"V", "G", "R", api.RuWay, "S R", nil},
		{"T", "U", "T", api.RuWay, "U R T", []string{"U S T", "U S R T"}},
	} {
		reasons(t, l, c.class, c.s, c.t, c.rule, c.way)
		a, b := in(l, c.class, c.s), in(l, c.class, c.t)
		for _, way := range c.others {
			if err := kind.CheckWhy(l, c.class, a, b, api.Reason{Rule: c.rule, Way: strings.Fields(way)}); err != api.OK {
				t.Errorf("%s to %s, %s: %d", c.s, c.t, way, err)
			}
		}
		own := strings.Fields(c.way)
		for _, way := range [][]string{nil, {}, {""}, own[1:], own[:len(own)-1], append([]string{own[0]}, own...), append(slices.Clone(own), "ANY"), {own[0], "Z"}, {"Z"}} {
			if err := kind.CheckWhy(l, c.class, a, b, api.Reason{Rule: c.rule, Way: way}); err != api.ErrProof {
				t.Errorf("%s to %s, %v: %d", c.s, c.t, way, err)
			}
		}
	}
}

// P5.8: the Rule is just that of Why, also if another sentence is so as well; other rules have no way.
func TestNearReasons(t *testing.T) {
	l := system(example)
	for _, c := range []struct {
		class, s, t string
		rule        int
		way         string
	}{
		{"WORDS", "ANY", "ANY", api.RuWay, "ANY"},
		{"WORDS", "ANY", "ANY", api.RuAny, "ANY"},
		{"WORDS", "WORDS", "ANY", api.RuWay, "WORDS ANY"},
		{"WORDS", "WORDS", "ANY", api.RuAny, "WORDS"},
		{"WORDS", "Void", "detachable ANY", api.RuAny, ""},
		{"SORTED", "H", "ANY", api.RuWay, "COMPARABLE ANY"},
		{"SORTED", "H", "H", api.RuWay, "H"},
		{"SORTED", "H", "H", api.RuWay, "COMPARABLE"},
		{"SORTED", "H", "H", api.RuFormal, "H"},
		{"SORTED", "H", "COMPARABLE", api.RuFormal, ""},
		{"SORTED", "H", "COMPARABLE", api.RuWay, "H COMPARABLE"},
		{"WORDS", "INTEGER", "INTEGER", api.RuWay, ""},
		{"WORDS", "INTEGER", "INTEGER", api.RuInt, "INTEGER"},
		{"WORDS", "INTEGER", "INTEGER", 0, ""},
		{"WORDS", "WORDS", "LIST [TEXT]", api.NoArgs, "WORDS SORTED LIST"},
		{"WORDS", "WORDS", "LIST [TEXT]", 0, "WORDS SORTED LIST"},
		{"WORDS", "WORDS", "LIST [TEXT]", 6, "WORDS SORTED LIST"},
		{"WORDS", "WORDS", "LIST [ANY]", api.RuWay, "WORDS SORTED LIST"},
		{"WORDS", "WORDS", "LIST [ANY]", 16, "WORDS SORTED LIST"},
		{"WORDS", "detachable WORDS", "LIST [ANY]", api.NoArgs, "WORDS SORTED LIST"},
		{"WORDS", "detachable separate WORDS", "LIST [TEXT]", api.NoSep, ""},
		{"WORDS", "separate WORDS", "LIST [ANY]", api.NoArgs, "WORDS SORTED LIST"},
		{"WORDS", "separate WORDS", "LIST [ANY]", api.NoSep, "WORDS SORTED LIST"},
		{"WORDS", "LIST [TEXT]", "BAG [TEXT]", api.NoArgs, "LIST BAG"},
		{"WORDS", "LIST [TEXT]", "BAG [TEXT]", api.NoClass, "LIST BAG"},
		{"WORDS", "Void", "TEXT", api.NoKind, ""},
		{"WORDS", "Void", "INTEGER", api.NoVoid, ""},
		{"WORDS", "Void", "Void", api.NoVoid, ""},
		{"SORTED", "TEXT", "H", api.NoClass, ""},
		{"SORTED", "detachable TEXT", "H", api.NoKind, ""},
		{"WORDS", "ANY", "TEXT", api.NoArgs, ""},
	} {
		if err := kind.CheckWhy(l, c.class, in(l, c.class, c.s), in(l, c.class, c.t), api.Reason{Rule: c.rule, Way: strings.Fields(c.way)}); err != api.ErrProof {
			t.Errorf("%s to %s, in %s, %d %s: %d", c.s, c.t, c.class, c.rule, c.way, err)
		}
	}
}
