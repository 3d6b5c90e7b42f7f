package read_test

import (
	"reflect"
	"slices"
	"strings"
	"testing"

	"cosigner/api"
	"cosigner/lex"
	"cosigner/read"
)

// classes writes all classes of a system.
func classes(w *loose, l []api.Class) {
	for _, c := range l {
		w.class(c)
	}
}

// withoutBrackets returns tokens without those of brackets.
func withoutBrackets(l []string) []string {
	return slices.DeleteFunc(slices.Clone(l), func(s string) bool { return s == "(" || s == ")" })
}

// spaced returns tokens with a blank between two of them, and a line feed behind each class.
func spaced(l []string) string {
	s := strings.Join(l, " ")
	if s == "" {
		return ""
	}
	s = strings.ReplaceAll(s, "end class", "end\nclass")
	return strings.ReplaceAll(s, "end deferred class", "end\ndeferred class") + "\n"
}

// P2.8, P2.10: whatever stands between the tokens, and however classes are written, they are read; and printed again with the same tokens but for brackets and empty parts.
func TestLawOfSystems(t *testing.T) {
	r := newChance(28)
	for range 600 {
		l := r.system()
		before := clone(reflect.ValueOf(l)).Interface()
		returns(t, l)
		text, _ := read.Print(l)
		if err, at := read.Whole(l); err != api.OK || at != 0 || !alike(l, before) {
			t.Fatalf("%+v: %d %d, or it has changed", before, err, at)
		}
		lean := wordsOf(r, false, l, classes)
		if !slices.Equal(withoutBrackets(words(t, text)), withoutBrackets(lean)) || text != spaced(words(t, text)) {
			t.Fatalf("%q, want the tokens %q", text, lean)
		}
		for range 3 {
			loose := laid(r, wordsOf(r, true, l, classes))
			again, at, err := read.Parse(loose)
			if at != (api.Place{}) || err != api.OK || !alike(again, l) {
				t.Fatalf("%q: %+v %v %d, want %+v", loose, again, at, err, l)
			}
			if s, err := read.Print(again); s != text || err != api.OK {
				t.Fatalf("%q: %q %d, want %q", loose, s, err, text)
			}
		}
	}
}

// P2.8, P2.10: expressions, by themselves.
func TestLawOfExprs(t *testing.T) {
	r := newChance(281)
	for range 3000 {
		e := r.expr(1 + r.Intn(6))
		text, err := read.ExprText(e)
		if err != api.OK {
			t.Fatalf("%+v: %d", e, err)
		}
		lean := wordsOf(r, false, e, (*loose).expr)
		if !slices.Equal(withoutBrackets(words(t, text)), withoutBrackets(lean)) || text != strings.Join(words(t, text), " ") {
			t.Fatalf("%q, want the tokens %q", text, lean)
		}
		for _, s := range []string{text, laid(r, wordsOf(r, true, e, (*loose).expr))} {
			again, at, err := read.ExprOf(s)
			if at != (api.Place{}) || err != api.OK || !alike(again, e) {
				t.Fatalf("%q: %+v %v %d, want %+v", s, again, at, err, e)
			}
			if n := read.Depth(again); n != read.Depth(e) {
				t.Fatalf("%q: %d", s, n)
			}
		}
	}
}

// P2.8, P2.10: statements, by themselves.
func TestLawOfStmts(t *testing.T) {
	r := newChance(282)
	for range 1000 {
		l := r.stmts(5)
		text, err := read.StmtsText(l)
		if err != api.OK {
			t.Fatalf("%+v: %d", l, err)
		}
		lean := wordsOf(r, false, l, (*loose).stmts)
		if !slices.Equal(withoutBrackets(words(t, text)), withoutBrackets(lean)) || text != strings.Join(words(t, text), " ") {
			t.Fatalf("%q, want the tokens %q", text, lean)
		}
		for _, s := range []string{text, laid(r, wordsOf(r, true, l, (*loose).stmts))} {
			if again, at, err := read.StmtsOf(s); at != (api.Place{}) || err != api.OK || !alike(again, l) {
				t.Fatalf("%q: %+v %v %d, want %+v", s, again, at, err, l)
			}
		}
	}
}

// P2.8, P2.10: types, with all formals.
func TestLawOfTypes(t *testing.T) {
	r := newChance(283)
	r.formals = []string{"G", "H"}
	for range 1000 {
		y := r.typed(1 + r.Intn(4))
		text, err := read.TypeText(y)
		lean := wordsOf(r, false, y, (*loose).typed)
		if err != api.OK || text != strings.Join(lean, " ") {
			t.Fatalf("%+v: %q %d", y, text, err)
		}
		for _, s := range []string{text, laid(r, lean)} {
			if again, at, err := read.TypeOf(s, r.formals); at != (api.Place{}) || err != api.OK || !alike(again, y) {
				t.Fatalf("%q: %+v %v %d, want %+v", s, again, at, err, y)
			}
		}
	}
}

// tokensOf returns the tokens of a text that is right.
func tokensOf(t *testing.T, text string) []api.Token {
	t.Helper()
	tokens, at, err := lex.Tokens(text)
	if err != api.OK {
		t.Fatalf("%q: %v %d", text, at, err)
	}
	return tokens
}

// P2.9: without any pair of its brackets that is not around arguments, an expression is another one, or none.
func TestLawOfBrackets(t *testing.T) {
	r := newChance(29)
	some := 0
	for range 1500 {
		e := r.expr(2 + r.Intn(5))
		text, _ := read.ExprText(e)
		l := tokensOf(t, text)
		for open, end := range brackets(l) {
			if open > 0 && l[open-1].Kind == api.TkName {
				continue
			}
			some++
			var out []string
			for i, token := range l {
				if i != open && i != end {
					out = append(out, token.Text)
				}
			}
			if other, _, err := read.ExprOf(strings.Join(out, " ")); err == api.OK && alike(other, e) {
				t.Fatalf("%q has brackets that mean nothing", text)
			}
		}
	}
	if some < 500 {
		t.Error(some)
	}
}

// agrees fails the test unless the place and the error of a text are those of the grammar.
func agrees(t *testing.T, rules map[string]*part, start, text string, at api.Place, err api.Errno, formals ...string) bool {
	t.Helper()
	tokens := tokensOf(t, text)
	i, want := errorOf(rules, start, tokens, formals...)
	var place api.Place
	if want != api.OK {
		place, _ = lex.PlaceOf(text, offset(text, tokens, i))
	}
	if at != place || err != want {
		t.Fatalf("%s %q: %v %d, want %v %d", start, text, at, err, place, want)
	}
	return err == api.OK
}

// P2.1, P2.3: texts by chance, in which some tokens are others, have the first error that the grammar says, and its place.
func TestLawOfGrammar(t *testing.T) {
	rules := rulesOf(grammar)
	r := newChance(21)
	right := 0
	count := func(is bool) {
		if is {
			right++
		}
	}
	for range 1200 {
		text := brokenText(r)
		_, at, err := read.Parse(text)
		count(agrees(t, rules, "system", text, at, err))

		l := wordsOf(r, true, r.expr(5), (*loose).expr)
		text = laid(r, brokenAt(r, l, r.Intn(len(l)+1)))
		_, at, err = read.ExprOf(text)
		count(agrees(t, rules, "expr", text, at, err))

		l = wordsOf(r, true, r.stmts(4), (*loose).stmts)
		text = laid(r, brokenAt(r, l, r.Intn(len(l)+1)))
		_, at, err = read.StmtsOf(text)
		count(agrees(t, rules, "stmts", text, at, err))

		l = wordsOf(r, true, r.typed(3), (*loose).typed)
		text = laid(r, brokenAt(r, l, r.Intn(len(l)+1)))
		_, at, err = read.TypeOf(text, []string{"G", "H"})
		count(agrees(t, rules, "type", text, at, err, "G", "H"))
	}
	if right < 200 || right > 4000 {
		t.Error(right)
	}
}

// P2.1: each token at each place of a text with all that the grammar has, in place of the one there, ahead of it, or with nothing behind it.
func TestGrammarByPlaces(t *testing.T) {
	rules := rulesOf(grammar)
	r := newChance(210)
	l := words(t, full)
	for i := range l {
		_, at, err := read.Parse(strings.Join(l[:i], " "))
		agrees(t, rules, "system", strings.Join(l[:i], " "), at, err)
		for range 12 {
			text := strings.Join(brokenAt(r, l, i), " ")
			_, at, err := read.Parse(text)
			agrees(t, rules, "system", text, at, err)
		}
	}
}
