package lex_test

import (
	"math"
	"math/rand"
	"slices"
	"strings"
	"testing"

	"cosigner/api"
	"cosigner/lex"
)

// P1.6: all places of texts.
func TestOffsetAndPlaceOf(t *testing.T) {
	for text, l := range map[string][]api.Place{
		"":       {at(1, 1)},
		"a":      {at(1, 1), at(1, 2)},
		"\n":     {at(1, 1), at(2, 1)},
		"ab\nc":  {at(1, 1), at(1, 2), at(1, 3), at(2, 1), at(2, 2)},
		"a\n\nb": {at(1, 1), at(1, 2), at(2, 1), at(3, 1), at(3, 2)},
		"a\n":    {at(1, 1), at(1, 2), at(2, 1)},
		"é\r\n!": {at(1, 1), at(1, 2), at(1, 3), at(1, 4), at(2, 1), at(2, 2)},
	} {
		for n, p := range l {
			if q, e := lex.PlaceOf(text, n); q != p || e != api.OK {
				t.Errorf("PlaceOf %q %d: %v %d", text, n, q, e)
			}
			if m, e := lex.Offset(text, p); m != n || e != api.OK {
				t.Errorf("Offset %q %v: %d %d", text, p, m, e)
			}
		}
		for _, n := range []int{-1, -5, math.MinInt, len(text) + 1, math.MaxInt} {
			if p, e := lex.PlaceOf(text, n); p != (api.Place{}) || e != api.ErrArg {
				t.Errorf("PlaceOf %q %d: %v %d", text, n, p, e)
			}
		}
		for line := -1; line < 6; line++ {
			for column := -1; column < 6; column++ {
				p := at(line, column)
				if n, e := lex.Offset(text, p); !slices.Contains(l, p) && (n != 0 || e != api.ErrArg) {
					t.Errorf("Offset %q %v: %d %d", text, p, n, e)
				}
			}
		}
	}
}

// P1.6: the chapter's example, places that are far off, and a text that is longer than texts of tokens may be.
func TestPlacesElsewhere(t *testing.T) {
	if n, e := lex.Offset("ab\ncd", at(2, 3)); n != 5 || e != api.OK {
		t.Error(n, e)
	}
	for _, p := range []api.Place{at(2, 4), at(1, 4), at(1, 6), at(3, 1), at(math.MaxInt, 1), at(1, math.MaxInt), at(math.MinInt, math.MinInt)} {
		if n, e := lex.Offset("ab\ncd", p); n != 0 || e != api.ErrArg {
			t.Error(p, n, e)
		}
	}
	long := strings.Repeat("ab\n", api.MaxText)
	if n, e := lex.Offset(long, at(api.MaxText+1, 1)); n != len(long) || e != api.OK {
		t.Error(n, e)
	}
	if p, e := lex.PlaceOf(long, len(long)-1); p != at(api.MaxText, 3) || e != api.OK {
		t.Error(p, e)
	}
}

// wrongChanges are changes of a text of three bytes that are not right.
var wrongChanges = []api.Change{{From: -1, To: 0}, {From: -1, To: -1}, {From: 2, To: 1}, {From: 0, To: 4}, {From: 4, To: 4}, {From: 4, To: 3}, {From: math.MinInt, To: math.MaxInt}, {From: 0, To: math.MaxInt, With: "a"}, {From: math.MaxInt, To: math.MinInt}}

// P1.7
func TestEdit(t *testing.T) {
	for _, w := range []struct {
		text string
		c    api.Change
		want string
	}{
		{"", api.Change{}, ""},
		{"", api.Change{With: "a"}, "a"},
		{"abc", api.Change{}, "abc"},
		{"abc", api.Change{With: "x"}, "xabc"},
		{"abc", api.Change{From: 3, To: 3, With: "x"}, "abcx"},
		{"abc", api.Change{From: 1, To: 2}, "ac"},
		{"abc", api.Change{From: 1, To: 2, With: "\n\n"}, "a\n\nc"},
		{"abc", api.Change{From: 0, To: 3, With: "\x00!"}, "\x00!"},
		{"abc", api.Change{From: 0, To: 3}, ""},
	} {
		if s, e := lex.Edit(w.text, w.c); s != w.want || e != api.OK {
			t.Errorf("%q %v: %q %d", w.text, w.c, s, e)
		}
	}
	for _, c := range wrongChanges {
		if s, e := lex.Edit("abc", c); s != "" || e != api.ErrArg {
			t.Errorf("%v: %q %d", c, s, e)
		}
	}
}

// P1.7: the limit is that of the changed text, and comes behind that of the change.
func TestLimitOfEdit(t *testing.T) {
	full := strings.Repeat("a", api.MaxText)
	for _, w := range []struct {
		what, text string
		c          api.Change
		want       api.Errno
	}{
		{"MaxText bytes", full[1:], api.Change{With: "b"}, api.OK},
		{"one byte more", full, api.Change{With: "b"}, api.ErrLimit},
		{"a byte for a byte", full, api.Change{From: 7, To: 8, With: "b"}, api.OK},
		{"two bytes for a byte", full, api.Change{From: 7, To: 8, With: "bb"}, api.ErrLimit},
		{"a longer text made shorter", full + "a", api.Change{From: 0, To: 1}, api.OK},
		{"a longer text as it is", full + "a", api.Change{}, api.ErrLimit},
		{"too long and wrong", full, api.Change{From: 2, To: 1, With: full}, api.ErrArg},
		{"too long and behind the end", full, api.Change{From: 0, To: api.MaxText + 1, With: full + "a"}, api.ErrArg},
	} {
		s, e := lex.Edit(w.text, w.c)
		if e != w.want || e == api.OK && len(s) != len(w.text)-(w.c.To-w.c.From)+len(w.c.With) || e != api.OK && s != "" {
			t.Errorf("%s: %d bytes, %d", w.what, len(s), e)
		}
	}
}

// P1.13
func TestLawOfPlaces(t *testing.T) {
	r := rand.New(rand.NewSource(13))
	for range 300 {
		text := textOf(r, 10, true)
		for n := 0; n <= len(text); n++ {
			p, e := lex.PlaceOf(text, n)
			m, f := lex.Offset(text, p)
			if m != n || e != api.OK || f != api.OK {
				t.Fatalf("%q %d: %v %d %d %d", text, n, p, e, m, f)
			}
		}
		text = rightText(r, 10)
		l, _, e := lex.Tokens(text)
		if e != api.OK {
			t.Fatalf("%q: %d", text, e)
		}
		last := -1
		for _, token := range l {
			n, e := lex.Offset(text, token.At)
			if e != api.OK || n <= last || !strings.HasPrefix(text[n:], token.Text) {
				t.Fatalf("%q %v: %d %d", text, token, n, e)
			}
			last = n
		}
	}
}
