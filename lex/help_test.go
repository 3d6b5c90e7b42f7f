package lex_test

import (
	"math/rand"
	"regexp"
	"slices"
	"strings"
	"testing"

	"cosigner/api"
)

// plain is the chapter's tokens once more, written as expressions of another kind than the program's, so that the two can be held against each other.
var plain = []struct {
	kind  int
	form  *regexp.Regexp
	wrong func(s string) api.Errno
}{
	{api.TkNote, regexp.MustCompile(`^--[^\n]*`), nil},
	{api.TkWord, regexp.MustCompile(`^[A-Za-z][A-Za-z0-9_]*`), plainWord},
	{api.TkNumber, regexp.MustCompile(`^[0-9][A-Za-z0-9_]*`), plainNumber},
	{api.TkSign, regexp.MustCompile(`^(:=|/=|<=|>=|//|[-=<>+*%()\[\]{},;:.])`), nil},
}

var (
	plainKeyword  = regexp.MustCompile(`^(and|as|attached|check|class|create|deferred|detachable|do|else|end|ensure|feature|from|if|implies|inherit|invariant|local|loop|not|old|or|put|raise|redefine|rename|require|rescue|retry|select|separate|then|undefine|until|variant|when|True|False|Void|Current|Result)$`)
	plainReserved = regexp.MustCompile(`^(true|false|void|current|result)$`)
	plainSmall    = regexp.MustCompile(`^[a-z0-9_]*$`)
	plainCapital  = regexp.MustCompile(`^[A-Z0-9_]*$`)
	plainDigits   = regexp.MustCompile(`^(0|[1-9][0-9]*)$`)
	plainNote     = regexp.MustCompile(`^[ -~]*$`)
)

func plainWord(s string) api.Errno {
	switch {
	case plainReserved.MatchString(s):
		return api.ErrName
	case !plainSmall.MatchString(s) && !plainCapital.MatchString(s) && !plainKeyword.MatchString(s):
		return api.ErrForm
	case len(s) > 20:
		return api.ErrLimit
	}
	return api.OK
}

func plainNumber(s string) api.Errno {
	const most = "1099511627776"
	switch {
	case !plainDigits.MatchString(s):
		return api.ErrForm
	case len(s) > len(most) || len(s) == len(most) && s > most:
		return api.ErrLimit
	}
	return api.OK
}

// plainRead reads a text byte by byte, with the expressions above: its tokens, its comments, or the first error and its place; the limits are not looked at.
func plainRead(text string) ([]api.Token, []api.Token, api.Place, api.Errno) {
	var tokens, notes []api.Token
	at := api.Place{Line: 1, Column: 1}
	for text != "" {
		if text[0] == '\n' {
			text, at = text[1:], api.Place{Line: at.Line + 1, Column: 1}
			continue
		}
		if text[0] == ' ' {
			text, at.Column = text[1:], at.Column+1
			continue
		}
		kind, s, err := plainRun(text)
		if kind == api.TkNote && !plainNote.MatchString(s) {
			for n := 0; ; n++ {
				if s[n] < 32 || s[n] > 126 {
					at.Column += n
					return nil, nil, at, api.ErrForm
				}
			}
		}
		if err != api.OK {
			return nil, nil, at, err
		}
		t := api.Token{Kind: kind, Text: s, At: at}
		if kind == api.TkNote {
			notes = append(notes, t)
		} else {
			tokens = append(tokens, t)
		}
		text, at.Column = text[len(s):], at.Column+len(s)
	}
	return tokens, notes, api.Place{}, api.OK
}

// plainRun returns the kind and the text of the run with which a text begins, and its error.
func plainRun(text string) (int, string, api.Errno) {
	for _, p := range plain {
		s := p.form.FindString(text)
		if s == "" {
			continue
		}
		kind := p.kind
		if kind == api.TkWord && !plainKeyword.MatchString(s) {
			kind = api.TkName
			if plainCapital.MatchString(s) {
				kind = api.TkClass
			}
		}
		if p.wrong == nil {
			return kind, s, api.OK
		}
		return kind, s, p.wrong(s)
	}
	return 0, text[:1], api.ErrForm
}

// some are right tokens of all kinds; each sign is one of them.
var some = []string{"if", "end", "Result", "True", "a", "b_1", "x9", "truex", "abcdefghijklmnopqrst", "A", "LIST_2", "ANY", "0", "7", "1099511627776", ":=", "/=", "<=", ">=", "//", "=", "<", ">", "+", "-", "*", "%", "(", ")", "[", "]", "{", "}", ",", ";", ":", "."}

// wrong are runs that are not right.
var wrong = []string{"!", "_", "_a", "\t", "\r", "/", "Ab", "aB", "12a", "01", "1_0", "result", "true", "1099511627777", "abcdefghijklmnopqrstu", "\x80", "-- \t", "--\x7f", "é"}

// parts are what stands between tokens.
var parts = []string{"", " ", "  ", "\n", " \n ", "\n\n", " -- a note\n", "--\n"}

// textOf returns some text by chance; the chance is the test's own, and the same each time.
func textOf(r *rand.Rand, tokens int, mayBeWrong bool) string {
	var b strings.Builder
	for range r.Intn(tokens + 1) {
		b.WriteString(parts[r.Intn(len(parts))])
		if mayBeWrong && r.Intn(20) == 0 {
			b.WriteString(wrong[r.Intn(len(wrong))])
		} else {
			b.WriteString(some[r.Intn(len(some))])
		}
	}
	b.WriteString(parts[r.Intn(len(parts))])
	return b.String()
}

// rightText returns some text without errors, by chance.
func rightText(r *rand.Rand, tokens int) string {
	for {
		s := textOf(r, tokens, false)
		if _, _, _, e := plainRead(s); e == api.OK {
			return s
		}
	}
}

// list returns right tokens with some texts, without places.
func list(texts ...string) []api.Token {
	var out []api.Token
	for _, s := range texts {
		kind, _, _ := plainRun(s)
		out = append(out, api.Token{Kind: kind, Text: s})
	}
	return out
}

// repeat returns n tokens with a text.
func repeat(s string, n int) []api.Token {
	return slices.Repeat(list(s), n)
}

// texts returns the texts of tokens.
func texts(l []api.Token) []string {
	var out []string
	for _, t := range l {
		out = append(out, t.Text)
	}
	return out
}

// bare returns tokens without their places.
func bare(l []api.Token) []api.Token {
	out := slices.Clone(l)
	for i := range out {
		out[i].At = api.Place{}
	}
	return out
}

// at is a place.
func at(line, column int) api.Place {
	return api.Place{Line: line, Column: column}
}

// sameTokens fails the test unless two lists have the same tokens.
func sameTokens(t *testing.T, what any, got, want []api.Token) {
	t.Helper()
	if !slices.Equal(got, want) {
		t.Errorf("%q: %v, want %v", what, got, want)
	}
}
