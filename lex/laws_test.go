package lex_test

import (
	"math/rand"
	"slices"
	"strings"
	"testing"

	"cosigner/api"
	"cosigner/lex"
)

// anyList returns tokens by chance.
func anyList(r *rand.Rand, most int) []api.Token {
	var out []api.Token
	for range r.Intn(most + 1) {
		out = append(out, list(some[r.Intn(len(some))])...)
	}
	return out
}

// shortest returns the length of the shortest text with tokens: of all ways to lay blanks between them, one that is read as they are.
func shortest(l []api.Token) int {
	best := -1
	for blanks := 0; blanks < 1<<max(0, len(l)-1); blanks++ {
		s := ""
		for i, t := range l {
			if i > 0 && blanks>>(i-1)&1 == 1 {
				s += " "
			}
			s += t.Text
		}
		got, _, _, e := plainRead(s)
		if e == api.OK && slices.Equal(bare(got), l) && (best < 0 || len(s) < best) {
			best = len(s)
		}
	}
	return best
}

// P1.10
func TestLawOfWriting(t *testing.T) {
	r := rand.New(rand.NewSource(10))
	for range 2000 {
		l := anyList(r, 8)
		written, e := lex.Write(l)
		if e != api.OK {
			t.Fatal(l, e)
		}
		tight, e := lex.Tight(l)
		if e != api.OK {
			t.Fatal(l, e)
		}
		for _, s := range []string{written, tight} {
			got, _, e := lex.Tokens(s)
			if e != api.OK || !slices.Equal(bare(got), l) {
				t.Fatalf("%q: %v %d, want %v", s, got, e, l)
			}
		}
		if n := shortest(l); len(tight) != n {
			t.Fatalf("%q has %d bytes, not %d", tight, len(tight), n)
		}
		again, _, _ := lex.Tokens(tight)
		if s, e := lex.Tight(again); s != tight || e != api.OK {
			t.Fatalf("%q: %q %d", tight, s, e)
		}
	}
}

// P1.11: what Strip leaves.
func TestLawOfStrip(t *testing.T) {
	r := rand.New(rand.NewSource(11))
	for range 2000 {
		text := rightText(r, 10)
		stripped, e := lex.Strip(text)
		if e != api.OK {
			t.Fatalf("%q: %d", text, e)
		}
		want, _, _ := lex.Tokens(text)
		got, _, e := lex.Tokens(stripped)
		if e != api.OK {
			t.Fatalf("%q: %d", stripped, e)
		}
		sameTokens(t, text, got, want)
		if notes, e := lex.Comments(stripped); len(notes) > 0 || e != api.OK {
			t.Fatalf("%q: %v %d", stripped, notes, e)
		}
		if again, e := lex.Strip(stripped); again != stripped || e != api.OK {
			t.Fatalf("%q: %q %d", stripped, again, e)
		}
		if strings.Contains(stripped+"\n", " \n") {
			t.Fatalf("%q: blanks at the end of a line", stripped)
		}
	}
}

// P1.11: comments, blanks and line feeds between tokens mean nothing. (A blank stands ahead of a comment, as `-` and `--` are a comment.)
func TestLawOfComments(t *testing.T) {
	r := rand.New(rand.NewSource(111))
	for range 1000 {
		l := anyList(r, 8)
		var b strings.Builder
		for _, token := range l {
			b.WriteString(" " + parts[r.Intn(len(parts))])
			b.WriteString(token.Text)
		}
		b.WriteString(" -- the last one")
		written, _ := lex.Write(l)
		if is, e := lex.Same(written, b.String()); !is || e != api.OK {
			t.Fatalf("%q %q: %v %d", written, b.String(), is, e)
		}
		got, _, e := lex.Tokens(b.String())
		if e != api.OK || !slices.Equal(bare(got), l) {
			t.Fatalf("%q: %v %d, want %v", b.String(), got, e, l)
		}
	}
}

// P1.12: the tokens of a text are those of its lines.
func TestLawOfLines(t *testing.T) {
	r := rand.New(rand.NewSource(121))
	for range 2000 {
		text := textOf(r, 10, true)
		var want []api.Token
		var place api.Place
		err := api.OK
		for i, line := range strings.Split(text, "\n") {
			l, p, e := lex.Tokens(line)
			if e != api.OK {
				want, place, err = nil, at(p.Line+i, p.Column), e
				break
			}
			for _, token := range l {
				token.At.Line += i
				want = append(want, token)
			}
		}
		got, p, e := lex.Tokens(text)
		if p != place || e != err {
			t.Fatalf("%q: %v %d, want %v %d", text, p, e, place, err)
		}
		sameTokens(t, text, got, want)
	}
}

// P1.14
func TestLawOfJoining(t *testing.T) {
	r := rand.New(rand.NewSource(14))
	for range 1000 {
		var l []string
		for range r.Intn(6) {
			l = append(l, textOf(r, 6, true))
		}
		text, lines, e := lex.Join(l)
		if e != api.OK || len(lines) != len(l) {
			t.Fatalf("%q: %v %d", l, lines, e)
		}
		var want []api.Token
		var place api.Place
		err := api.OK
		for i, s := range l {
			tokens, p, e := lex.Tokens(s)
			if e != api.OK {
				want, place, err = nil, at(p.Line+lines[i]-1, p.Column), e
				break
			}
			for _, token := range tokens {
				token.At.Line += lines[i] - 1
				want = append(want, token)
			}
		}
		got, p, e := lex.Tokens(text)
		if p != place || e != err {
			t.Fatalf("%q: %v %d, want %v %d", text, p, e, place, err)
		}
		sameTokens(t, text, got, want)
	}
	half := strings.Repeat("+", api.MaxTokens/2+1)
	text, _, e := lex.Join([]string{half, half})
	if e != api.OK {
		t.Fatal(e)
	}
	if l, p, e := lex.Tokens(text); len(l) > 0 || p != (api.Place{}) || e != api.ErrLimit {
		t.Error(len(l), p, e)
	}
	text, _, _ = lex.Join([]string{half, half, "a\n!"})
	if l, p, e := lex.Tokens(text); len(l) > 0 || p != at(4, 1) || e != api.ErrForm {
		t.Error(len(l), p, e)
	}
}
