// Package lex is layer 1: tokens of texts (shared/doc/01-lex.md).
package lex

import (
	"iter"
	"slices"
	"strings"

	"cosigner/api"
)

// noteMark is what a comment begins with.
const noteMark = "--"

// Tokens returns the tokens of a text, or the first error, and its place.
func Tokens(text string) ([]api.Token, api.Place, api.Errno) {
	r := readText(text)
	return r.tokens, r.at, r.err
}

// Comments returns the comments of a text.
func Comments(text string) ([]api.Token, api.Errno) {
	r := readText(text)
	return r.notes, r.err
}

// Strip returns a text without its comments.
func Strip(text string) (string, api.Errno) {
	if r := readText(text); r.err != api.OK {
		return "", r.err
	}
	lines := strings.Split(text, "\n")
	for i, line := range lines {
		lines[i] = strings.TrimRight(withoutNote(line), " ")
	}
	return strings.Join(lines, "\n"), api.OK
}

// Same reports whether two texts have the same tokens.
func Same(a, b string) (bool, api.Errno) {
	first := readText(a)
	if first.err != api.OK {
		return false, first.err
	}
	second := readText(b)
	if second.err != api.OK {
		return false, second.err
	}
	return slices.EqualFunc(first.tokens, second.tokens, alike), api.OK
}

// alike leaves places out: they are not what a token says.
func alike(a, b api.Token) bool {
	return a.Kind == b.Kind && a.Text == b.Text
}

// reading is what has been read of a text: its tokens and its comments, or the first error alone.
type reading struct {
	tokens, notes []api.Token
	at            api.Place
	err           api.Errno
}

// readText reads a whole text. The tokens are counted last, so that an error in the text comes ahead of their limit.
func readText(text string) reading {
	if len(text) > api.MaxText {
		return reading{err: api.ErrLimit}
	}
	r := readLines(text, 1)
	if len(r.tokens) > api.MaxTokens {
		return reading{err: api.ErrLimit}
	}
	return r
}

// readLines reads lines up to the first error; first is the number of the first one of them.
func readLines(text string, first int) reading {
	var r reading
	for i, line := range strings.Split(text, "\n") {
		for at, run := range runs(line) {
			if !r.take(run, api.Place{Line: first + i, Column: at + 1}) {
				return r
			}
		}
	}
	return r
}

// take adds a run to what has been read, and reports whether it is right. A wrong one leaves nothing but its error.
func (r *reading) take(run string, at api.Place) bool {
	if strings.HasPrefix(run, noteMark) {
		if n := span(run, isPrintable); n < len(run) {
			at.Column += n
			*r = reading{at: at, err: api.ErrForm}
			return false
		}
		r.notes = append(r.notes, api.Token{Kind: api.TkNote, Text: run, At: at})
		return true
	}
	kind, err := Shape(run)
	if err != api.OK {
		*r = reading{at: at, err: err}
		return false
	}
	r.tokens = append(r.tokens, api.Token{Kind: kind, Text: run, At: at})
	return true
}

// runs yields what a line consists of between its blanks, each with its offset: comments, words, numbers and signs, whether they are right or not. A byte with which none of these begins is a run by itself, which Shape rejects.
func runs(line string) iter.Seq2[int, string] {
	return func(yield func(int, string) bool) {
		for at := 0; at < len(line); {
			n := runLength(line[at:])
			if line[at] != ' ' && !yield(at, line[at:at+n]) {
				return
			}
			at += n
		}
	}
}

// runLength returns how many bytes belong to the run with which a text, which is not empty, begins.
func runLength(text string) int {
	switch {
	case strings.HasPrefix(text, noteMark):
		return len(text)
	case isLetter(text[0]) || isDigit(text[0]):
		return span(text, inRun)
	}
	return max(1, len(longestSign(text)))
}

// withoutNote returns a line up to its comment.
func withoutNote(line string) string {
	for at, run := range runs(line) {
		if strings.HasPrefix(run, noteMark) {
			return line[:at]
		}
	}
	return line
}
