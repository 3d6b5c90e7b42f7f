package kind_test

import (
	"testing"

	"cosigner/api"
	"cosigner/kind"
)

// P5.9
func TestJoins(t *testing.T) {
	const two = "X; Y; Z; A (X, Y); B (Y, X); C (Z, A); D (B, Z); E [G: A, H: B] (X); L [G: ANY]; M (A, L [X]); N (L [X], B); O (L [Y], B)"
	for _, c := range []struct{ system, class, a, b, want, back string }{
		{example, "WORDS", "WORDS", "BAG [TEXT]", "LIST [TEXT]", ""},
		{example, "WORDS", "WORDS", "detachable BAG [COMPARABLE]", "detachable ANY", ""},
		// Void's type.
		{example, "WORDS", "Void", "TEXT", "detachable TEXT", ""},
		{example, "WORDS", "Void", "detachable TEXT", "detachable TEXT", ""},
		{example, "WORDS", "Void", "separate LIST [TEXT]", "detachable separate LIST [TEXT]", ""},
		{example, "WORDS", "Void", "ANY", "detachable ANY", ""},
		{example, "SORTED", "Void", "H", "detachable 'H", ""},
		{example, "SORTED", "Void", "detachable H", "detachable 'H", ""},
		{example, "WORDS", "Void", "Void", "Void", ""},
		// Plain types.
		{example, "WORDS", "INTEGER", "INTEGER", "INTEGER", ""},
		{example, "WORDS", "BOOLEAN", "BOOLEAN", "BOOLEAN", ""},
		{example, "WORDS", "INTEGER", "BOOLEAN", "", ""},
		{example, "WORDS", "INTEGER", "Void", "", ""},
		{example, "WORDS", "BOOLEAN", "Void", "", ""},
		{example, "WORDS", "INTEGER", "TEXT", "", ""},
		{example, "WORDS", "BOOLEAN", "detachable ANY", "", ""},
		{example, "SORTED", "INTEGER", "H", "", ""},
		// Formals.
		{example, "SORTED", "H", "H", "'H", ""},
		{example, "SORTED", "H", "detachable H", "detachable 'H", ""},
		{example, "SORTED", "detachable H", "detachable H", "detachable 'H", ""},
		{example, "SORTED", "H", "COMPARABLE", "COMPARABLE", ""},
		{example, "SORTED", "H", "TEXT", "COMPARABLE", ""},
		{example, "SORTED", "H", "separate TEXT", "separate COMPARABLE", ""},
		{example, "SORTED", "detachable H", "separate TEXT", "detachable separate COMPARABLE", ""},
		{example, "SORTED", "H", "LIST [H]", "ANY", ""},
		{example, "LIST", "G", "ANY", "ANY", ""},
		{example, "LIST", "G", "LIST [G]", "ANY", ""},
		{two, "E", "G", "G", "'G", ""},
		{two, "E", "G", "H", "Y, X", "X, Y"},
		{two, "E", "G", "detachable H", "detachable Y, detachable X", "detachable X, detachable Y"},
		{two, "E", "G", "A", "A", ""},
		{two, "E", "G", "C", "A", ""},
		{two, "E", "G", "E [G, H]", "X", ""},
		{two, "E", "G", "Z", "ANY", ""},
		// Class types.
		{two, "X", "X", "X", "X", ""},
		{two, "X", "X", "Y", "ANY", ""},
		{two, "X", "A", "X", "X", ""},
		{two, "X", "A", "detachable X", "detachable X", ""},
		{two, "X", "separate A", "X", "separate X", ""},
		{two, "X", "separate A", "detachable X", "detachable separate X", ""},
		{two, "X", "detachable separate A", "X", "detachable separate X", ""},
		{two, "X", "A", "ANY", "ANY", ""},
		{two, "X", "ANY", "ANY", "ANY", ""},
		{two, "X", "separate ANY", "ANY", "separate ANY", ""},
		{two, "X", "C", "C", "C", ""},
		{two, "X", "A", "B", "Y, X", "X, Y"},
		{two, "X", "detachable A", "separate B", "detachable separate Y, detachable separate X", "detachable separate X, detachable separate Y"},
		{two, "X", "C", "D", "Y, X, Z", "Z, X, Y"},
		{two, "X", "C", "A", "A", ""},
		{two, "X", "C", "E [A, B]", "X", ""},
		// Ancestors with the same and with other actual types.
		{two, "X", "L [X]", "L [X]", "L [X]", ""},
		{two, "X", "L [X]", "L [Y]", "ANY", ""},
		{two, "X", "L [A]", "L [X]", "ANY", ""},
		{two, "X", "L [L [X]]", "separate L [L [X]]", "separate L [L [X]]", ""},
		{two, "X", "M", "N", "L [X], Y, X", "X, Y, L [X]"},
		{two, "X", "M", "O", "Y, X", "X, Y"},
		{two, "X", "N", "O", "B", ""},
		{two, "E", "L [G]", "L [H]", "ANY", ""},
		{two, "E", "L [G]", "L [G]", "L ['G]", ""},
	} {
		l := system(c.system)
		a, b := in(l, c.class, c.a), in(l, c.class, c.b)
		if c.back == "" {
			c.back = c.want
		}
		if least, err := kind.Joins(l, c.class, a, b); err != api.OK || typesText(least) != c.want {
			t.Errorf("%s and %s, in %s: %s %d, want %s", c.a, c.b, c.class, typesText(least), err, c.want)
		}
		if least, err := kind.Joins(l, c.class, b, a); err != api.OK || typesText(least) != c.back {
			t.Errorf("%s and %s, in %s: %s %d, want %s", c.b, c.a, c.class, typesText(least), err, c.back)
		}
	}
}
