package lex

import (
	"strings"

	"cosigner/api"
)

// keywords has a blank on either side of each keyword, so that a word can be looked for as a whole.
const keywords = " and as attached check class create deferred detachable do else end ensure feature from if implies inherit invariant local loop not old or put raise redefine rename require rescue retry select separate then undefine until variant when "

// signs are all signs.
var signs = []string{":=", "/=", "<=", ">=", "//", "=", "<", ">", "+", "-", "*", "%", "(", ")", "[", "]", "{", "}", ",", ";", ":", "."}

// longSign is how many bytes the longest signs have.
const longSign = 2

// Keywords returns all keywords.
func Keywords() []string {
	return strings.Fields(keywords)
}

// Shape returns the kind of the token that a text is, and the error if it is none.
func Shape(s string) (int, api.Errno) {
	if s == "" {
		return 0, api.ErrForm
	}
	whole := span(s, inRun) == len(s)
	switch {
	case whole && isLetter(s[0]):
		return wordShape(s)
	case whole && isDigit(s[0]):
		if _, err := number(s); err != api.OK {
			return 0, err
		}
		return api.TkNumber, api.OK
	case longestSign(s) == s:
		return api.TkSign, api.OK
	}
	return 0, api.ErrForm
}

// Value returns the number that a text says.
func Value(s string) (int, api.Errno) {
	kind, err := Shape(s)
	if err != api.OK {
		return 0, err
	}
	if kind != api.TkNumber {
		return 0, api.ErrForm
	}
	return number(s)
}

// wordShape returns the Shape of a word.
func wordShape(s string) (int, api.Errno) {
	switch s {
	case "True", "False", "Void", "Current", "Result":
		return api.TkWord, api.OK
	case "true", "false", "void", "current", "result":
		return 0, api.ErrName
	}
	if strings.Contains(keywords, " "+s+" ") {
		return api.TkWord, api.OK
	}
	small := span(s, nameByte('a', 'z')) == len(s)
	capital := span(s, nameByte('A', 'Z')) == len(s)
	switch {
	case !small && !capital:
		return 0, api.ErrForm
	case len(s) > api.MaxName:
		return 0, api.ErrLimit
	case small:
		return api.TkName, api.OK
	}
	return api.TkClass, api.OK
}

// number returns the value of a run that begins with a digit. Its form is looked at ahead of its size, as of a run that is both too long and wrong the form is the error.
func number(s string) (int, api.Errno) {
	if span(s, isDigit) < len(s) || len(s) > 1 && s[0] == '0' {
		return 0, api.ErrForm
	}
	n := 0
	for i := 0; i < len(s); i++ {
		n = 10*n + int(s[i]-'0')
		if n > api.MaxNum {
			return 0, api.ErrLimit
		}
	}
	return n, api.OK
}

// longestSign returns the longest sign with which a text begins, or nothing.
func longestSign(text string) string {
	found := ""
search:
	for n := min(longSign, len(text)); n > 0; n-- {
		for _, s := range signs {
			if s == text[:n] {
				found = s
				break search
			}
		}
	}
	return found
}

// span returns how many bytes at the beginning of a text belong together.
func span(text string, belongs func(byte) bool) int {
	n := 0
	for n < len(text) && belongs(text[n]) {
		n++
	}
	return n
}

// nameByte returns what tells whether a byte belongs to a name whose letters are from one to another.
func nameByte(from, to byte) func(byte) bool {
	return func(c byte) bool {
		return from <= c && c <= to || isDigit(c) || c == '_'
	}
}

func inRun(c byte) bool {
	return isLetter(c) || isDigit(c) || c == '_'
}

func isLetter(c byte) bool {
	return 'a' <= c && c <= 'z' || 'A' <= c && c <= 'Z'
}

func isDigit(c byte) bool {
	return '0' <= c && c <= '9'
}

// isPrintable tells which bytes a comment may have.
func isPrintable(c byte) bool {
	return ' ' <= c && c <= '~'
}
