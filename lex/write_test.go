package lex_test

import (
	"slices"
	"strings"
	"testing"

	"cosigner/api"
	"cosigner/lex"
)

// wrongTokens are tokens that are not right.
var wrongTokens = []api.Token{
	{},
	{Text: "a"},
	{Kind: 7, Text: "a"},
	{Kind: -1, Text: "a"},
	{Kind: api.TkName},
	{Kind: api.TkName, Text: "if"},
	{Kind: api.TkName, Text: "A"},
	{Kind: api.TkName, Text: "true"},
	{Kind: api.TkName, Text: "aB"},
	{Kind: api.TkName, Text: "abcdefghijklmnopqrstu"},
	{Kind: api.TkClass, Text: "a"},
	{Kind: api.TkClass, Text: "True"},
	{Kind: api.TkWord, Text: "a"},
	{Kind: api.TkWord, Text: "Results"},
	{Kind: api.TkNumber, Text: "01"},
	{Kind: api.TkNumber, Text: "a"},
	{Kind: api.TkNumber, Text: "-1"},
	{Kind: api.TkNumber, Text: "1099511627777"},
	{Kind: api.TkSign, Text: "--"},
	{Kind: api.TkSign, Text: "/"},
	{Kind: api.TkSign, Text: " "},
	{Kind: api.TkNote, Text: "--"},
	{Kind: api.TkNote, Text: "-- a"},
	{Kind: api.TkName, Text: "a "},
	{Kind: api.TkName, Text: " a"},
	{Kind: api.TkName, Text: "a\n"},
	{Kind: api.TkName, Text: "a b"},
}

// P1.4, with the chapter's examples.
func TestNeeds(t *testing.T) {
	for _, w := range []struct {
		a, b string
		want bool
	}{
		{"-", "-", true}, {":", "=", true}, {")", "(", false}, {"2", "do", true}, {"/=", "=", false},
		{"a", "b", true}, {"a", "A", true}, {"A", "a", true}, {"if", "if", true}, {"a", "1", true}, {"1", "1", true}, {"1", "a", true}, {"True", "0", true},
		{"<", "=", true}, {">", "=", true}, {"=", "=", false}, {":=", "=", false}, {":", ":=", false}, {"//", "=", false}, {"//", "//", false},
		{"<", "<=", false}, {"<=", "=", false}, {"=", "<", false}, {"-", "+", false}, {"+", "-", false}, {"=", "-", false},
		{"a", ":=", false}, {":=", "a", false}, {"1", ".", false}, {".", "1", false}, {"-", "1", false}, {"1", "-", false}, {"/=", "/=", false},
	} {
		l := list(w.a, w.b)
		if is, e := lex.Needs(l[0], l[1]); is != w.want || e != api.OK {
			t.Errorf("%q %q: %v %d", w.a, w.b, is, e)
		}
	}
}

// P1.4: all pairs of tokens, at any places.
func TestNeedsOfAllPairs(t *testing.T) {
	all := append(list(some...), list(lex.Keywords()...)...)
	for _, a := range all {
		for _, b := range all {
			l, _, _, e := plainRead(a.Text + b.Text)
			want := e != api.OK || !slices.Equal(bare(l), []api.Token{a, b})
			far := b
			far.At = at(-3, 1<<40)
			if is, e := lex.Needs(a, far); is != want || e != api.OK {
				t.Errorf("%q %q: %v %d", a.Text, b.Text, is, e)
			}
		}
	}
}

// P1.4, P1.5: tokens that are not right.
func TestWrongTokens(t *testing.T) {
	right := list("a")[0]
	for _, w := range wrongTokens {
		if is, e := lex.Needs(w, right); is || e != api.ErrArg {
			t.Errorf("Needs %v a: %v %d", w, is, e)
		}
		if is, e := lex.Needs(right, w); is || e != api.ErrArg {
			t.Errorf("Needs a %v: %v %d", w, is, e)
		}
		for _, l := range [][]api.Token{{w}, {w, right}, {right, w}, {right, w, right}} {
			if s, e := lex.Write(l); s != "" || e != api.ErrArg {
				t.Errorf("Write %v: %q %d", l, s, e)
			}
			if s, e := lex.Tight(l); s != "" || e != api.ErrArg {
				t.Errorf("Tight %v: %q %d", l, s, e)
			}
		}
	}
}

// P1.5, with the chapter's example.
func TestWriteAndTight(t *testing.T) {
	for _, w := range []struct{ write, tight string }{
		{"", ""},
		{"a", "a"},
		{"if a < = then", "if a< =then"},
		{"if a < = then - - b /= 2", "if a< =then- -b/=2"},
		{"a b", "a b"},
		{"a := b", "a:=b"},
		{"a : = b", "a: =b"},
		{"- - - 1", "- - -1"},
		{"a . b ( 1 , 2 )", "a.b(1,2)"},
		{"> = >= = // = /= : := 1 2 A", "> =>==//=/=::=1 2 A"},
	} {
		l := list(strings.Fields(w.write)...)
		if s, e := lex.Write(l); s != w.write || e != api.OK {
			t.Errorf("Write %q: %q %d", w.write, s, e)
		}
		if s, e := lex.Tight(l); s != w.tight || e != api.OK {
			t.Errorf("Tight %q: %q %d, want %q", w.write, s, e, w.tight)
		}
	}
	placed := list("a", "b")
	placed[0].At, placed[1].At = at(9, 9), at(-1, 0)
	if s, e := lex.Write(placed); s != "a b" || e != api.OK {
		t.Errorf("places matter: %q %d", s, e)
	}
	if s, e := lex.Tight(nil); s != "" || e != api.OK {
		t.Errorf("%q %d", s, e)
	}
}

// P1.5: the limits, and their order.
func TestLimitsOfWriting(t *testing.T) {
	name := "abcdefghijklmnopqrst"
	for _, w := range []struct {
		what         string
		l            []api.Token
		write, tight api.Errno
	}{
		{"MaxTokens tokens", repeat("+", api.MaxTokens), api.OK, api.OK},
		{"one token more", repeat("+", api.MaxTokens+1), api.ErrLimit, api.ErrLimit},
		{"too many, one wrong", append(list("+", "!"), repeat("+", api.MaxTokens)...), api.ErrLimit, api.ErrLimit},
		{"too long, the last one wrong", append(repeat(name, 2000), api.Token{Kind: api.TkName, Text: "A"}), api.ErrArg, api.ErrArg},
		{"MaxText bytes with blanks", append(repeat("abcd", 3999), list("abcde")...), api.OK, api.OK},
		{"one byte more with blanks", append(repeat("abcd", 3999), list("abcdef")...), api.ErrLimit, api.ErrLimit},
		{"MaxText bytes without blanks", slices.Concat(slices.Repeat(list(name, "+"), 952), list("abcdefg", "-")), api.ErrLimit, api.OK},
		{"one byte more without blanks", slices.Concat(slices.Repeat(list(name, "+"), 952), list("abcdefgh", "-")), api.ErrLimit, api.ErrLimit},
	} {
		long := len(strings.Join(texts(w.l), " "))
		if s, e := lex.Write(w.l); e != w.write || e == api.OK && len(s) != long || e != api.OK && s != "" {
			t.Errorf("Write, %s: %d bytes, %d", w.what, len(s), e)
		}
		if s, e := lex.Tight(w.l); e != w.tight || e != api.OK && s != "" {
			t.Errorf("Tight, %s: %d bytes, %d", w.what, len(s), e)
		}
	}
	if s, _ := lex.Tight(slices.Concat(slices.Repeat(list(name, "+"), 952), list("abcdefg", "-"))); len(s) != api.MaxText {
		t.Error("the test is wrong:", len(s))
	}
	if s, _ := lex.Write(append(repeat("abcd", 3999), list("abcde")...)); len(s) != api.MaxText {
		t.Error("the test is wrong:", len(s))
	}
}

// P1.9, with the chapter's example.
func TestJoin(t *testing.T) {
	for _, w := range []struct {
		l     []string
		text  string
		lines []int
	}{
		{nil, "", nil},
		{[]string{}, "", nil},
		{[]string{""}, "\n", []int{1}},
		{[]string{"a"}, "a\n", []int{1}},
		{[]string{"a", "b\n"}, "a\nb\n\n", []int{1, 2}},
		{[]string{"a", "b\n", ""}, "a\nb\n\n\n", []int{1, 2, 4}},
		{[]string{"", "", "c"}, "\n\nc\n", []int{1, 2, 3}},
		{[]string{"\n\n", "!\x00", "x\ny"}, "\n\n\n!\x00\nx\ny\n", []int{1, 4, 5}},
	} {
		if s, lines, e := lex.Join(w.l); s != w.text || !slices.Equal(lines, w.lines) || e != api.OK {
			t.Errorf("%q: %q %v %d", w.l, s, lines, e)
		}
	}
}

// P1.9: the limits.
func TestLimitsOfJoining(t *testing.T) {
	half := strings.Repeat("a", api.MaxText/2-1)
	for _, w := range []struct {
		what string
		l    []string
		want api.Errno
	}{
		{"MaxTexts texts", make([]string, api.MaxTexts), api.OK},
		{"one text more", make([]string, api.MaxTexts+1), api.ErrLimit},
		{"MaxText bytes", []string{half, half}, api.OK},
		{"one byte more", []string{half, half + "a"}, api.ErrLimit},
		{"one line feed more", []string{half, half, ""}, api.ErrLimit},
		{"MaxText bytes ahead of the line feed", []string{strings.Repeat("\n", api.MaxText)}, api.ErrLimit},
	} {
		s, lines, e := lex.Join(w.l)
		if e != w.want || e == api.OK && len(lines) != len(w.l) || e != api.OK && (s != "" || len(lines) > 0) {
			t.Errorf("%s: %d bytes, %v, %d", w.what, len(s), lines, e)
		}
	}
}
