package lex

import (
	"strings"

	"cosigner/api"
)

// Needs reports whether something must stand between two tokens.
func Needs(a, b api.Token) (bool, api.Errno) {
	if !isRight(a) || !isRight(b) {
		return false, api.ErrArg
	}
	return needs(a, b), api.OK
}

// Write returns a text of tokens, with one blank between two of them.
func Write(l []api.Token) (string, api.Errno) {
	return write(l, func(a, b api.Token) bool { return true })
}

// Tight returns the shortest text of tokens.
func Tight(l []api.Token) (string, api.Errno) {
	return write(l, needs)
}

// Join joins texts, and returns the line with which each one begins.
func Join(l []string) (string, []int, api.Errno) {
	if len(l) > api.MaxTexts {
		return "", nil, api.ErrLimit
	}
	size := 0
	for _, s := range l {
		size += len(s) + 1
	}
	if size > api.MaxText {
		return "", nil, api.ErrLimit
	}
	var out strings.Builder
	var lines []int
	line := 1
	for _, s := range l {
		lines = append(lines, line)
		line += strings.Count(s, "\n") + 1
		out.WriteString(s)
		out.WriteByte('\n')
	}
	return out.String(), lines, api.OK
}

// isRight reports whether a token is right; its place does not matter.
func isRight(t api.Token) bool {
	kind, err := Shape(t.Text)
	return err == api.OK && kind == t.Kind
}

// needs is Needs for right tokens. If the first run is as long as the first token, it is this token, and what is left is the second one.
func needs(a, b api.Token) bool {
	return runLength(a.Text+b.Text) != len(a.Text)
}

// write returns the text of tokens with a blank between those two that are to be parted.
func write(l []api.Token, parted func(a, b api.Token) bool) (string, api.Errno) {
	if len(l) > api.MaxTokens {
		return "", api.ErrLimit
	}
	for _, t := range l {
		if !isRight(t) {
			return "", api.ErrArg
		}
	}
	var out strings.Builder
	for i, t := range l {
		if i > 0 && parted(l[i-1], t) {
			out.WriteByte(' ')
		}
		out.WriteString(t.Text)
	}
	if out.Len() > api.MaxText {
		return "", api.ErrLimit
	}
	return out.String(), api.OK
}
