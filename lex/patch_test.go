package lex_test

import (
	"math/rand"
	"slices"
	"strings"
	"testing"

	"cosigner/api"
	"cosigner/lex"
)

// P1.8: the chapter's example.
func TestPatchExample(t *testing.T) {
	text := "a\nb c\nd"
	l, _, _ := lex.Tokens(text)
	given := slices.Clone(l)
	got, n, p, e := lex.Patch(l, text, api.Change{From: 2, To: 3, With: "x\ny"})
	want := []api.Token{
		{Kind: api.TkName, Text: "a", At: at(1, 1)}, {Kind: api.TkName, Text: "x", At: at(2, 1)}, {Kind: api.TkName, Text: "y", At: at(3, 1)},
		{Kind: api.TkName, Text: "c", At: at(3, 3)}, {Kind: api.TkName, Text: "d", At: at(4, 1)},
	}
	if n != 3 || p != (api.Place{}) || e != api.OK {
		t.Error(n, p, e)
	}
	sameTokens(t, text, got, want)
	got[0].Text = "spoilt"
	sameTokens(t, "what was given", l, given)
}

// P1.8: what is read anew, and what is kept as it is given.
func TestPatch(t *testing.T) {
	for _, w := range []struct {
		text string
		c    api.Change
		anew int
	}{
		{"", api.Change{}, 0},
		{"", api.Change{With: "a b"}, 2},
		{"a", api.Change{From: 1, To: 1, With: "b"}, 1},
		{"a\nb\nc", api.Change{}, 1},
		{"a\nb\nc", api.Change{From: 1, To: 1}, 1},
		{"a\nb\nc", api.Change{From: 1, To: 2}, 1},
		{"a\nb\nc", api.Change{From: 1, To: 2, With: "\n"}, 2},
		{"a\nb\nc", api.Change{From: 2, To: 2, With: "x"}, 1},
		{"a\nb\nc", api.Change{From: 2, To: 3}, 0},
		{"a\nb\nc", api.Change{From: 0, To: 5}, 0},
		{"a\nb\nc", api.Change{From: 0, To: 5, With: "x y\nz"}, 3},
		{"a\nb\nc", api.Change{From: 3, To: 3, With: "\n\n\n"}, 1},
		{"a\nb\nc", api.Change{From: 5, To: 5, With: "\n"}, 1},
		{"a\nb c\nd e f\n", api.Change{From: 3, To: 6}, 3},
		{"a\nb c\nd e f\n", api.Change{From: 12, To: 12, With: "g\nh"}, 2},
		{"a b\nc d\n", api.Change{From: 3, To: 4, With: " -- "}, 2},
		{"a -- b\nc", api.Change{From: 2, To: 4}, 2},
		{": =\nc", api.Change{From: 1, To: 2}, 1},
		{"a\n\n\nb\nc", api.Change{From: 2, To: 3, With: "- -\n"}, 2},
	} {
		l, _, _, _ := plainRead(w.text)
		want, _, _, e := plainRead(w.text[:w.c.From] + w.c.With + w.text[w.c.To:])
		if e != api.OK {
			t.Fatalf("the test is wrong: %q %v", w.text, w.c)
		}
		got, n, p, e := lex.Patch(l, w.text, w.c)
		if n != w.anew || p != (api.Place{}) || e != api.OK {
			t.Errorf("%q %v: %d %v %d, want %d", w.text, w.c, n, p, e, w.anew)
		}
		sameTokens(t, w.text, got, want)
	}
}

// P1.8: tokens on other lines are kept, whatever they are; those on the touched lines are not looked at.
func TestPatchKeepsTokens(t *testing.T) {
	text := "!! b\nc d\ntrue\n\xff"
	l := []api.Token{
		{Kind: 99, Text: "of another text", At: at(1, 3)},
		{Text: "left out", At: at(2, 1)},
		{Kind: api.TkNote, Text: "left out", At: at(2, 4)},
		{Kind: -1, Text: "\n", At: at(3, 5)},
		{At: at(4, 1)},
		{Kind: api.TkName, Text: "last", At: at(4, 2)},
	}
	given := slices.Clone(l)
	got, n, _, e := lex.Patch(l, text, api.Change{From: 5, To: 8, With: "e\n\n"})
	want := []api.Token{
		{Kind: 99, Text: "of another text", At: at(1, 3)},
		{Kind: api.TkName, Text: "e", At: at(2, 1)},
		{Kind: -1, Text: "\n", At: at(5, 5)},
		{At: at(6, 1)},
		{Kind: api.TkName, Text: "last", At: at(6, 2)},
	}
	if n != 1 || e != api.OK {
		t.Error(n, e)
	}
	sameTokens(t, text, got, want)
	sameTokens(t, "what was given", l, given)
	for p, c := range map[api.Place]api.Change{at(1, 1): {From: 4, To: 14}, at(1, 3): {From: 0, To: 14, With: "a "}} {
		if got, n, q, e := lex.Patch(l, text, c); len(got) > 0 || n != 0 || q != p || e != api.ErrForm {
			t.Error(c, got, n, q, e)
		}
	}
	got, n, _, e = lex.Patch(l, text, api.Change{From: 0, To: 8, With: "e"})
	if n != 1 || e != api.OK {
		t.Error(n, e)
	}
	sameTokens(t, text, got, []api.Token{{Kind: api.TkName, Text: "e", At: at(1, 1)}, {Kind: -1, Text: "\n", At: at(2, 5)}, {At: at(3, 1)}, {Kind: api.TkName, Text: "last", At: at(3, 2)}})
}

// P1.8: the errors, and their order.
func TestErrorsOfPatch(t *testing.T) {
	text := "a\nb c\nd"
	l, _, _, _ := plainRead(text)
	swapped := []api.Token{l[0], l[2], l[1], l[3]}
	full := strings.Repeat("a", api.MaxText)
	many := strings.Repeat("+", api.MaxTokens)
	lots, _, _, _ := plainRead(many + "\na")
	for _, w := range []struct {
		what string
		l    []api.Token
		text string
		c    api.Change
		at   api.Place
		err  api.Errno
	}{
		{"a wrong change", l, text, api.Change{From: 3, To: 2}, api.Place{}, api.ErrArg},
		{"a change behind the end", l, text, api.Change{From: 0, To: 8}, api.Place{}, api.ErrArg},
		{"a change ahead of the text", l, text, api.Change{From: -1, To: 8}, api.Place{}, api.ErrArg},
		{"too long", l, text, api.Change{With: full}, api.Place{}, api.ErrLimit},
		{"too long, swapped", swapped, text, api.Change{With: full}, api.Place{}, api.ErrLimit},
		{"swapped", swapped, text, api.Change{}, api.Place{}, api.ErrArg},
		{"swapped, with an error", swapped, text, api.Change{With: "!"}, api.Place{}, api.ErrArg},
		{"swapped lines", []api.Token{l[3], l[0]}, text, api.Change{}, api.Place{}, api.ErrArg},
		{"a place that is none", []api.Token{{At: at(1, 3)}}, text, api.Change{}, api.Place{}, api.ErrArg},
		{"a line that is none", []api.Token{{At: at(4, 1)}}, text, api.Change{}, api.Place{}, api.ErrArg},
		{"a zero place", []api.Token{{}}, text, api.Change{}, api.Place{}, api.ErrArg},
		{"a wrong place on a touched line", []api.Token{{At: at(2, 5)}}, text, api.Change{From: 2, To: 5}, api.Place{}, api.ErrArg},
		{"a place of the changed text", []api.Token{{At: at(1, 4)}}, text, api.Change{With: "aaaa"}, api.Place{}, api.ErrArg},
		{"the place at the end", []api.Token{{At: at(3, 2)}}, text, api.Change{}, api.Place{}, api.OK},
		{"the place of a line feed", []api.Token{{At: at(1, 2)}}, text, api.Change{From: 7, To: 7}, api.Place{}, api.OK},
		{"an error", l, text, api.Change{From: 7, To: 7, With: "!"}, at(3, 2), api.ErrForm},
		{"an error of a name", l, text, api.Change{From: 2, To: 3, With: "x\n\n  true "}, at(4, 3), api.ErrName},
		{"an error of a length", l, text, api.Change{From: 5, To: 6, With: full[:20]}, at(2, 3), api.ErrLimit},
		{"an error in a comment", l, text, api.Change{From: 3, To: 3, With: " --\t"}, at(2, 5), api.ErrForm},
		{"an error that was there, on the line", nil, "a\nb !\nc", api.Change{From: 2, To: 2}, at(2, 3), api.ErrForm},
		{"an error that was there, on other lines", nil, "!\nb\n01", api.Change{From: 2, To: 2}, api.Place{}, api.OK},
		{"MaxTokens tokens", lots[:api.MaxTokens], many + "\n", api.Change{}, api.Place{}, api.OK},
		{"one token more", lots[:api.MaxTokens], many + "\n", api.Change{With: "+"}, api.Place{}, api.ErrLimit},
		{"one token more on another line", lots[:api.MaxTokens], many + "\n", api.Change{From: len(many) + 1, To: len(many) + 1, With: "a"}, api.Place{}, api.ErrLimit},
		{"too many, with an error", lots[:api.MaxTokens], many + "\n", api.Change{With: "+\n01"}, at(2, 1), api.ErrForm},
		{"too many given, but not then", lots, many + "\na", api.Change{From: len(many) + 1, To: len(many) + 2}, api.Place{}, api.OK},
	} {
		given := slices.Clone(w.l)
		got, n, p, e := lex.Patch(w.l, w.text, w.c)
		if p != w.at || e != w.err || e != api.OK && (len(got) > 0 || n != 0) {
			t.Errorf("%s: %d tokens, %d, %v %d", w.what, len(got), n, p, e)
		}
		sameTokens(t, w.what, w.l, given)
	}
}

// P1.12 (and P1.8): Patch by chance, against reading the changed text.
func TestLawOfPatch(t *testing.T) {
	r := rand.New(rand.NewSource(8))
	for range 5000 {
		text := rightText(r, 8)
		from := r.Intn(len(text) + 1)
		c := api.Change{From: from, To: from + r.Intn(len(text)-from+1), With: textOf(r, 3, true)}
		l, _, _, _ := plainRead(text)
		changed, e := lex.Edit(text, c)
		if e != api.OK {
			t.Fatal(text, c, e)
		}
		want, _, place, err := plainRead(changed)
		got, n, p, e := lex.Patch(l, text, c)
		if p != place || e != err {
			t.Fatalf("%q %v: %v %d, want %v %d", text, c, p, e, place, err)
		}
		sameTokens(t, text, got, want)
		first := 1 + strings.Count(text[:c.From], "\n")
		last := first + strings.Count(c.With, "\n")
		anew := 0
		for _, token := range want {
			if first <= token.At.Line && token.At.Line <= last {
				anew++
			}
		}
		if n != anew {
			t.Fatalf("%q %v: %d, want %d", text, c, n, anew)
		}
	}
}
