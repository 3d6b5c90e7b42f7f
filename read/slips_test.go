package read_test

import (
	"slices"
	"strings"
	"testing"

	"cosigner/api"
	"cosigner/lex"
	"cosigner/read"
)

// slipsOf returns the texts without the marks, which stand where each slip is, and the places of these.
func slipsOf(text string) (string, []api.Place) {
	var places []api.Place
	for strings.Contains(text, "^") {
		var at api.Place
		text, at = marked(text)
		places = append(places, at)
	}
	return text, places
}

// P2.2, with the chapter's example: all slips here are ErrForm.
func TestSlips(t *testing.T) {
	for _, w := range []string{
		"", " -- class\n", "class A end", "class A end class B end", "deferred class A end deferred class B end",
		"class A ^x end class B end deferred class C^", "class A ^x end class B ^x end", "class A ^class B end", "class A\n  ^class B ^class C^", "class ^class ^class^",
		"^x class A end", "^x", "^end class A end", "deferred ^end class A end", "^x class A ^x end", "^feature { ANY } x do end end class A end",
		"class A end ^x class B end", "class A end ^x deferred class B end", "class A end ^end deferred class B end", "class A end deferred^", "class A end deferred ^x",
		"deferred ^deferred class A end", "class A end deferred ^deferred class B end", "class A ^deferred class B end", "class A ^deferred class B end deferred class C end",
		"class A feature { ANY } x do end ^deferred class B end", "class A feature { ANY } x deferred ^class B end", "class A feature { ANY } x deferred end ^deferred class B end",
		"class A feature { ANY } x do if a then ^class B end", "class A feature { ANY } x do if a then end ^deferred class B ^x end", "class A invariant t : ^deferred class B end class C end",
		"class A\n-- a comment\n ^x end\n\n deferred -- x\nclass B ^", "class A feature { ANY } x do end ^class B feature { ANY } x do end^",
		strings.Repeat("class A ^x end\n", 40), strings.Repeat("class A end\n", 40) + "class A ^x end",
	} {
		text, places := slipsOf(w)
		var want []api.Slip
		for _, at := range places {
			want = append(want, api.Slip{At: at, Err: api.ErrForm})
		}
		if l, err := read.Slips(text); err != api.OK || !slices.Equal(l, want) {
			t.Errorf("%q: %v %d, want %v", text, l, err, want)
		}
	}
}

// P2.2: the errors of several pieces, each its first one; too many classes are none.
func TestSlipsOfAllErrors(t *testing.T) {
	deep := "class A invariant t : " + deepExpr(api.MaxNest+1) + " ; end\n"
	text, places := slipsOf("^x\nclass ^ANY [ [\n" + "^" + deep + "class A feature { ANY } x do raise ^100 ; x x end end deferred class A [ G : ^NONE ] end class A end\n^deferred " + deep + " class A")
	want := []api.Errno{api.ErrForm, api.ErrName, api.ErrLimit, api.ErrLimit, api.ErrName, api.ErrLimit, api.ErrForm}
	l, err := read.Slips(text)
	if err != api.OK || len(l) != len(want) {
		t.Fatal(l, err)
	}
	end, _ := lex.PlaceOf(text, len(text))
	for i, at := range append(places, end) {
		if l[i] != (api.Slip{At: at, Err: want[i]}) {
			t.Error(i, l[i], at, want[i])
		}
	}
	if l, err := read.Slips(strings.Repeat("class A end ", api.MaxClasses+1)); len(l) > 0 || err != api.OK {
		t.Error(l, err)
	}
}

// P2.2: the pieces are those between the marks.
func TestSplit(t *testing.T) {
	for _, w := range []string{
		"", " ", "-- class A end\n", "|class A end", "  -- a\n |class A end -- b\n |class B end\n", "|class |class |class", "|x |class A", "|x deferred |class A", " |x end |deferred class A end",
		"|deferred class A end |deferred class B end |class C end", "|deferred deferred |class A end", "|class A end |deferred class B", "|class A end deferred", "|deferred",
		"|deferred end |class A", "|class deferred |class B", "|class A feature { ANY } x deferred end |deferred class B end", "|class A feature { ANY } x deferred |class B end", "|class A end deferred deferred |class B end",
		" |x y z -- class\n 1 + 2\n", "|class A\n\n -- b\n end-- c\n\n|class B end \n ", "|end |deferred class A", "|end end |deferred class A |class |class end |deferred class",
	} {
		ahead, rest, _ := strings.Cut(w, "|")
		var want []string
		if rest != "" {
			want = strings.Split(rest, "|")
		}
		text := ahead + strings.ReplaceAll(rest, "|", "")
		if l, err := read.Split(text); err != api.OK || !slices.Equal(l, want) {
			t.Errorf("%q: %q %d, want %q", text, l, err, want)
		}
	}
}

// brokenText returns a text of classes by chance, in which some tokens are others, or are left out, or were put there.
func brokenText(r *chance) string {
	l := wordsOf(r, true, r.system(), func(w *loose, l []api.Class) {
		for _, c := range l {
			w.class(c)
		}
	})
	for range r.Intn(4) {
		l = brokenAt(r, l, r.Intn(len(l)+1))
	}
	return laid(r, l)
}

// brokenAt changes tokens at a place.
func brokenAt(r *chance, l []string, i int) []string {
	words := append(lex.Keywords(), "a", "b", "A", "G", "INTEGER", "BOOLEAN", "ANY", "NONE", "True", "False", "Void", "Current", "Result", "1", "99", "100",
		":=", "/=", "<=", ">=", "//", "=", "<", ">", "+", "-", "*", "%", "(", ")", "[", "]", "{", "}", ",", ";", ":", ".", "deferred", "class", "end", "end")
	word := pick(r, words...)
	if i < len(l) && r.Intn(2) == 0 {
		word = pick(r, l...)
	}
	switch {
	case i == len(l) || r.Intn(3) == 0:
		return slices.Insert(slices.Clone(l), i, word)
	case r.Intn(2) == 0:
		return slices.Delete(slices.Clone(l), i, i+1)
	}
	return slices.Concat(l[:i], []string{word}, l[i+1:])
}

// cuts returns the indices of tokens where pieces begin, by the chapter's words.
func cuts(tokens []api.Token) []int {
	var l []int
	for i, t := range tokens {
		is := func(j int, word string) bool { return j >= 0 && tokens[j].Text == word }
		begins := is(i-1, "deferred") && (i == 1 || is(i-2, "end"))
		switch {
		case t.Text == "class" && begins:
			l = append(l, i-1)
		case t.Text == "class":
			l = append(l, i)
		}
	}
	if len(tokens) > 0 && !slices.Contains(l, 0) {
		l = slices.Insert(l, 0, 0)
	}
	return l
}

// offset returns the offset of a token, or the length of the text behind all of them.
func offset(text string, tokens []api.Token, i int) int {
	if i == len(tokens) {
		return len(text)
	}
	n, _ := lex.Offset(text, tokens[i].At)
	return n
}

// P2.2, P2.11, P2.12: pieces by chance, each against Parse of its text by itself.
func TestLawOfPieces(t *testing.T) {
	r := newChance(22)
	for range 1500 {
		text := brokenText(r)
		tokens, _, err := lex.Tokens(text)
		if err != api.OK {
			t.Fatalf("%q: %d", text, err)
		}
		first := cuts(tokens)
		var want []string
		var slips []api.Slip
		for i, from := range first {
			to := len(tokens)
			if i+1 < len(first) {
				to = first[i+1]
			}
			start, end := offset(text, tokens, from), offset(text, tokens, to)
			want = append(want, text[start:end])
			blank := strings.Map(func(c rune) rune {
				if c == '\n' {
					return c
				}
				return ' '
			}, text[:start])
			if _, at, err := read.Parse(blank + text[start:end]); err != api.OK {
				slips = append(slips, api.Slip{At: at, Err: err})
			}
		}
		if l, err := read.Split(text); err != api.OK || !slices.Equal(l, want) {
			t.Fatalf("Split %q: %q %d, want %q", text, l, err, want)
		}
		if len(want) > 0 && strings.Join(want, "") != text[offset(text, tokens, 0):] {
			t.Fatalf("%q: %q", text, want)
		}
		if l, err := read.Slips(text); err != api.OK || !slices.Equal(l, slips) {
			t.Fatalf("Slips %q: %v %d, want %v", text, l, err, slips)
		}
		_, at, err := read.Parse(text)
		if err == api.OK != (len(slips) == 0) || err != api.OK && slips[0] != (api.Slip{At: at, Err: err}) {
			t.Fatalf("%q: %v %d, but %v", text, at, err, slips)
		}
	}
}

// P2.11: a class that is right has no slip, whatever stands ahead of it. (At its first token that of the piece ahead may be, whose end lacks.)
func TestLawOfRightClasses(t *testing.T) {
	r := newChance(211)
	for range 1000 {
		right := laid(r, wordsOf(r, true, r.class(), (*loose).class)) + "\n"
		ahead, behind := brokenText(r)+"\n", pick(r, "", "class", "class B end", "class B x", "class class")
		text := ahead + right + behind
		l, err := read.Slips(text)
		if err != api.OK {
			t.Fatalf("%q: %d", text, err)
		}
		tokens, _, _ := lex.Tokens(right)
		begin := slices.IndexFunc(tokens, func(t api.Token) bool { return t.Text == "class" })
		from, to := len(ahead)+offset(right, tokens, begin), len(ahead+right)
		for _, s := range l {
			if n, _ := lex.Offset(text, s.At); from < n && n <= to {
				t.Fatalf("%q: %v", text, s)
			}
		}
	}
}
