package lex_test

import (
	"math/rand"
	"slices"
	"strings"
	"testing"

	"cosigner/api"
	"cosigner/lex"
)

// P1.2, with the chapter's examples.
func TestTokens(t *testing.T) {
	for text, want := range map[string][]api.Token{
		"":                nil,
		" ":               nil,
		"\n\n":            nil,
		"-- a":            nil,
		"--":              nil,
		"a -- b":          {{Kind: api.TkName, Text: "a", At: at(1, 1)}},
		"a":               {{Kind: api.TkName, Text: "a", At: at(1, 1)}},
		"a\n":             {{Kind: api.TkName, Text: "a", At: at(1, 1)}},
		"\na":             {{Kind: api.TkName, Text: "a", At: at(2, 1)}},
		"  -- if\n\n  if": {{Kind: api.TkWord, Text: "if", At: at(3, 3)}},
		"x := a//2 -- half": {
			{Kind: api.TkName, Text: "x", At: at(1, 1)}, {Kind: api.TkSign, Text: ":=", At: at(1, 3)}, {Kind: api.TkName, Text: "a", At: at(1, 6)},
			{Kind: api.TkSign, Text: "//", At: at(1, 7)}, {Kind: api.TkNumber, Text: "2", At: at(1, 9)},
		},
		"is Result": {{Kind: api.TkName, Text: "is", At: at(1, 1)}, {Kind: api.TkWord, Text: "Result", At: at(1, 4)}},
		"A.b\nLIST[G]": {
			{Kind: api.TkClass, Text: "A", At: at(1, 1)}, {Kind: api.TkSign, Text: ".", At: at(1, 2)}, {Kind: api.TkName, Text: "b", At: at(1, 3)},
			{Kind: api.TkClass, Text: "LIST", At: at(2, 1)}, {Kind: api.TkSign, Text: "[", At: at(2, 5)}, {Kind: api.TkClass, Text: "G", At: at(2, 6)},
			{Kind: api.TkSign, Text: "]", At: at(2, 7)},
		},
		"-1-a--b": {
			{Kind: api.TkSign, Text: "-", At: at(1, 1)}, {Kind: api.TkNumber, Text: "1", At: at(1, 2)},
			{Kind: api.TkSign, Text: "-", At: at(1, 3)}, {Kind: api.TkName, Text: "a", At: at(1, 4)},
		},
	} {
		got, p, e := lex.Tokens(text)
		if p != (api.Place{}) || e != api.OK {
			t.Errorf("%q: %v %d", text, p, e)
		}
		sameTokens(t, text, got, want)
	}
}

// P1.2: the longest sign.
func TestLongestSign(t *testing.T) {
	for text, want := range map[string][]string{
		":=":       {":="},
		"::=":      {":", ":="},
		":==":      {":=", "="},
		": =":      {":", "="},
		":\n=":     {":", "="},
		"/==":      {"/=", "="},
		"<==":      {"<=", "="},
		"<<=":      {"<", "<="},
		">>=":      {">", ">="},
		">==":      {">=", "="},
		"=<=":      {"=", "<="},
		"<>":       {"<", ">"},
		"////":     {"//", "//"},
		"///=":     {"//", "/="},
		"//=":      {"//", "="},
		"- -":      {"-", "-"},
		"-":        {"-"},
		"+-":       {"+", "-"},
		"()[]{}":   {"(", ")", "[", "]", "{", "}"},
		",;:.%*+-": {",", ";", ":", ".", "%", "*", "+", "-"},
	} {
		got, _, e := lex.Tokens(text)
		if e != api.OK || !slices.Equal(texts(got), want) {
			t.Errorf("%q: %q %d", text, texts(got), e)
		}
	}
}

// wrongTexts are texts with an error, and its place.
var wrongTexts = []struct {
	text string
	at   api.Place
	err  api.Errno
}{
	{"A.b\n 01", at(2, 2), api.ErrForm},
	{"result", at(1, 1), api.ErrName},
	{"Results", at(1, 1), api.ErrForm},
	{"12a", at(1, 1), api.ErrForm},
	{"!", at(1, 1), api.ErrForm},
	{"a !", at(1, 3), api.ErrForm},
	{"a!b", at(1, 2), api.ErrForm},
	{"a\n\n 01", at(3, 2), api.ErrForm},
	{"a\tb", at(1, 2), api.ErrForm},
	{"a\rb", at(1, 2), api.ErrForm},
	{"\r\n", at(1, 1), api.ErrForm},
	{"_a", at(1, 1), api.ErrForm},
	{"a _", at(1, 3), api.ErrForm},
	{"a/b", at(1, 2), api.ErrForm},
	{"///", at(1, 3), api.ErrForm},
	{"a / = b", at(1, 3), api.ErrForm},
	{"aé", at(1, 2), api.ErrForm},
	{"\xff", at(1, 1), api.ErrForm},
	{"a\x00", at(1, 2), api.ErrForm},
	{"a\x7f", at(1, 2), api.ErrForm},
	{"a -- \tb", at(1, 6), api.ErrForm},
	{"--\t", at(1, 3), api.ErrForm},
	{"a\n  --- b\r\nc", at(2, 8), api.ErrForm},
	{"-- \x1f", at(1, 4), api.ErrForm},
	{"-- \x7f", at(1, 4), api.ErrForm},
	{"-- é", at(1, 4), api.ErrForm},
	{"-- !\t!", at(1, 5), api.ErrForm},
	{"  abcdefghijklmnopqrstu ! ", at(1, 3), api.ErrLimit},
	{"ABCDEFGHIJKLMNOPQRSTU", at(1, 1), api.ErrLimit},
	{"x:=1099511627777", at(1, 4), api.ErrLimit},
	{"x:=true", at(1, 4), api.ErrName},
	{"x.current", at(1, 3), api.ErrName},
	{"true 01", at(1, 1), api.ErrName},
	{"01 true", at(1, 1), api.ErrForm},
	{"-- true\n\n aB\n -- \t", at(3, 2), api.ErrForm},
	{"a -- \x01\n!", at(1, 6), api.ErrForm},
}

// P1.2, and P1.3 for Strip and Same: the first error and its place.
func TestErrorsOfTexts(t *testing.T) {
	for _, w := range wrongTexts {
		if l, p, e := lex.Tokens(w.text); len(l) > 0 || p != w.at || e != w.err {
			t.Errorf("Tokens %q: %v %v %d", w.text, l, p, e)
		}
		if l, e := lex.Comments("-- a\n" + w.text); len(l) > 0 || e != w.err {
			t.Errorf("Comments %q: %v %d", w.text, l, e)
		}
		if s, e := lex.Strip("a -- a\n" + w.text); s != "" || e != w.err {
			t.Errorf("Strip %q: %q %d", w.text, s, e)
		}
		if is, e := lex.Same(w.text, "a"); is || e != w.err {
			t.Errorf("Same %q: %v %d", w.text, is, e)
		}
		if is, e := lex.Same("a", w.text); is || e != w.err {
			t.Errorf("Same a %q: %v %d", w.text, is, e)
		}
	}
}

// readsPlainly fails the test unless a text is read as by the expressions of the tests.
func readsPlainly(t *testing.T, text string) {
	t.Helper()
	l, notes, p, e := plainRead(text)
	got, q, f := lex.Tokens(text)
	if p != q || e != f {
		t.Errorf("Tokens %q: %v %d, want %v %d", text, q, f, p, e)
	}
	sameTokens(t, text, got, l)
	got, f = lex.Comments(text)
	if e != f {
		t.Errorf("Comments %q: %d, want %d", text, f, e)
	}
	sameTokens(t, text, got, notes)
}

// P1.2: each byte by itself, and in a comment.
func TestBytes(t *testing.T) {
	for c := 0; c < 256; c++ {
		b := string([]byte{byte(c)})
		for _, text := range []string{b, "a" + b + "b", "a --" + b, "a -- " + b + "\nb", "1" + b, ":" + b} {
			readsPlainly(t, text)
		}
	}
}

// limitTexts are texts at the limits.
var limitTexts = []struct {
	name, text string
	at         api.Place
	err        api.Errno
}{
	{"MaxText bytes", strings.Repeat(" ", api.MaxText), api.Place{}, api.OK},
	{"one byte more", strings.Repeat(" ", api.MaxText+1), api.Place{}, api.ErrLimit},
	{"one line feed more", strings.Repeat("\n", api.MaxText+1), api.Place{}, api.ErrLimit},
	{"too long ahead of an error", "!" + strings.Repeat(" ", api.MaxText), api.Place{}, api.ErrLimit},
	{"an error at MaxText bytes", strings.Repeat(" ", api.MaxText-1) + "!", api.Place{Line: 1, Column: api.MaxText}, api.ErrForm},
	{"MaxTokens tokens", strings.Repeat("a\n", api.MaxTokens), api.Place{}, api.OK},
	{"one token more", strings.Repeat("+", api.MaxTokens+1), api.Place{}, api.ErrLimit},
	{"an error ahead of too many tokens", strings.Repeat("+", api.MaxTokens+1) + "\n!", api.Place{Line: 2, Column: 1}, api.ErrForm},
	{"comments are no tokens", strings.Repeat("--\n", api.MaxTokens+1), api.Place{}, api.OK},
	{"MaxTokens tokens and a comment", strings.Repeat("+", api.MaxTokens) + "--", api.Place{}, api.OK},
}

// P1.2 and P1.3: the limits, and their order.
func TestLimitsOfTexts(t *testing.T) {
	for _, w := range limitTexts {
		l, p, e := lex.Tokens(w.text)
		if p != w.at || e != w.err || e != api.OK && len(l) > 0 {
			t.Errorf("Tokens, %s: %v %d", w.name, p, e)
		}
		notes, e := lex.Comments(w.text)
		if e != w.err || e != api.OK && len(notes) > 0 {
			t.Errorf("Comments, %s: %d", w.name, e)
		}
		if s, e := lex.Strip(w.text); e != w.err || e != api.OK && s != "" {
			t.Errorf("Strip, %s: %d", w.name, e)
		}
		if is, e := lex.Same(w.text, w.text); e != w.err || is != (e == api.OK) {
			t.Errorf("Same, %s: %v %d", w.name, is, e)
		}
	}
	if l, _, _ := lex.Tokens(strings.Repeat("a\n", api.MaxTokens)); len(l) != api.MaxTokens {
		t.Error(len(l))
	}
	if l, _ := lex.Comments(strings.Repeat("--\n", api.MaxTokens+1)); len(l) != api.MaxTokens+1 {
		t.Error(len(l))
	}
}

// P1.2
func TestComments(t *testing.T) {
	for text, want := range map[string][]api.Token{
		"":                nil,
		"a\nb\n":          nil,
		"- - a":           nil,
		"--":              {{Kind: api.TkNote, Text: "--", At: at(1, 1)}},
		"--\n":            {{Kind: api.TkNote, Text: "--", At: at(1, 1)}},
		"a -- b \n--c":    {{Kind: api.TkNote, Text: "-- b ", At: at(1, 3)}, {Kind: api.TkNote, Text: "--c", At: at(2, 1)}},
		"---":             {{Kind: api.TkNote, Text: "---", At: at(1, 1)}},
		"-- a -- b":       {{Kind: api.TkNote, Text: "-- a -- b", At: at(1, 1)}},
		"a:=--1\n\n  --!": {{Kind: api.TkNote, Text: "--1", At: at(1, 4)}, {Kind: api.TkNote, Text: "--!", At: at(3, 3)}},
		"-- ~ 01 aB true": {{Kind: api.TkNote, Text: "-- ~ 01 aB true", At: at(1, 1)}},
	} {
		got, e := lex.Comments(text)
		if e != api.OK {
			t.Errorf("%q: %d", text, e)
		}
		sameTokens(t, text, got, want)
	}
}

// P1.2: texts by chance are read as by the expressions of the tests.
func TestTokensByChance(t *testing.T) {
	r := rand.New(rand.NewSource(12))
	for range 5000 {
		readsPlainly(t, textOf(r, 12, true))
	}
}

// P1.3
func TestStrip(t *testing.T) {
	for text, want := range map[string]string{
		"":                      "",
		"a":                     "a",
		"a\n":                   "a\n",
		"\n":                    "\n",
		"  ":                    "",
		" \n \n":                "\n\n",
		"--":                    "",
		"--\n":                  "\n",
		"a -- b":                "a",
		"a--b":                  "a",
		"  a  b  -- c  ":        "  a  b",
		"a  -- b\n  c  \n--d":   "a\n  c\n",
		"a  \n  -- b\n\n  c\n ": "a\n\n\n  c\n",
		"- -- -":                "-",
		"a - - b":               "a - - b",
	} {
		if s, e := lex.Strip(text); s != want || e != api.OK {
			t.Errorf("%q: %q %d, want %q", text, s, e, want)
		}
	}
}

// P1.3
func TestSame(t *testing.T) {
	for _, w := range []struct {
		a, b string
		want bool
	}{
		{"", "", true},
		{"", " -- a\n", true},
		{"a:=b", "a := -- x\n b", true},
		{"a", "a a", false},
		{"a a", "a", false},
		{"", "a", false},
		{"a", "b", false},
		{"a", "A", false},
		{"a b", "b a", false},
		{":=", ": =", false},
		{"- -", "--", false},
		{"ab", "a b", false},
		{"if a", "if\na", true},
	} {
		if is, e := lex.Same(w.a, w.b); is != w.want || e != api.OK {
			t.Errorf("%q %q: %v %d", w.a, w.b, is, e)
		}
	}
	for _, w := range []struct {
		a, b string
		want api.Errno
	}{
		{"true", "01", api.ErrName},
		{"01", "true", api.ErrForm},
		{"a", "01", api.ErrForm},
		{"true", strings.Repeat(" ", api.MaxText+1), api.ErrName},
		{strings.Repeat(" ", api.MaxText+1), "true", api.ErrLimit},
		{strings.Repeat("+", api.MaxTokens+1), "true", api.ErrLimit},
	} {
		if is, e := lex.Same(w.a, w.b); is || e != w.want {
			t.Errorf("%.20q %.20q: %v %d", w.a, w.b, is, e)
		}
	}
}
