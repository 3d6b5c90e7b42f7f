package lex

import (
	"iter"
	"strings"

	"cosigner/api"
)

// Offset returns where a place is in a text.
func Offset(text string, p api.Place) (int, api.Errno) {
	for offset, q := range places(text) {
		if q == p {
			return offset, api.OK
		}
	}
	return 0, api.ErrArg
}

// PlaceOf returns the place of a byte of a text.
func PlaceOf(text string, offset int) (api.Place, api.Errno) {
	if offset < 0 || offset > len(text) {
		return api.Place{}, api.ErrArg
	}
	ahead := text[:offset]
	return api.Place{Line: strings.Count(ahead, "\n") + 1, Column: offset - strings.LastIndexByte(ahead, '\n')}, api.OK
}

// Edit returns a text with a change.
func Edit(text string, c api.Change) (string, api.Errno) {
	if err := editError(text, c); err != api.OK {
		return "", err
	}
	return text[:c.From] + c.With + text[c.To:], api.OK
}

// Patch returns the tokens of a changed text from those that it had, and how many of them were read anew.
func Patch(l []api.Token, text string, c api.Change) ([]api.Token, int, api.Place, api.Errno) {
	if err := editError(text, c); err != api.OK {
		return nil, 0, api.Place{}, err
	}
	if !arePlaced(l, text) {
		return nil, 0, api.Place{}, api.ErrArg
	}
	first := strings.Count(text[:c.From], "\n") + 1
	last := first + strings.Count(text[c.From:c.To], "\n")
	anew := readLines(text[lineStart(text, c.From):c.From]+c.With+text[c.To:lineEnd(text, c.To)], first)
	if anew.err != api.OK {
		return nil, 0, anew.at, anew.err
	}
	shift := strings.Count(c.With, "\n") - (last - first)
	ahead := moved(l, 0, func(line int) bool { return line < first })
	behind := moved(l, shift, func(line int) bool { return line > last })
	all := joined(ahead, anew.tokens, behind)
	if len(all) > api.MaxTokens {
		return nil, 0, api.Place{}, api.ErrLimit
	}
	return all, len(anew.tokens), api.Place{}, api.OK
}

// places yields each offset of a text, up to its length, with its place.
func places(text string) iter.Seq2[int, api.Place] {
	return func(yield func(int, api.Place) bool) {
		p := api.Place{Line: 1, Column: 1}
		for i := 0; i < len(text); i++ {
			if !yield(i, p) {
				return
			}
			p.Column++
			if text[i] == '\n' {
				p = api.Place{Line: p.Line + 1, Column: 1}
			}
		}
		yield(len(text), p)
	}
}

// editError returns the error of a change of a text.
func editError(text string, c api.Change) api.Errno {
	if c.From < 0 || c.From > c.To || c.To > len(text) {
		return api.ErrArg
	}
	if len(text)-(c.To-c.From)+len(c.With) > api.MaxText {
		return api.ErrLimit
	}
	return api.OK
}

// arePlaced reports whether tokens stand at places of a text, in their order. All are told in one walk along the text.
func arePlaced(l []api.Token, text string) bool {
	n := 0
	for _, p := range places(text) {
		for n < len(l) && l[n].At == p {
			n++
		}
	}
	return n == len(l)
}

// lineStart returns where the line of an offset begins.
func lineStart(text string, offset int) int {
	return strings.LastIndexByte(text[:offset], '\n') + 1
}

// lineEnd returns where the line of an offset ends.
func lineEnd(text string, offset int) int {
	if n := strings.IndexByte(text[offset:], '\n'); n >= 0 {
		return offset + n
	}
	return len(text)
}

// moved returns those tokens that stand on some lines, moved by a number of lines.
func moved(l []api.Token, shift int, stays func(line int) bool) []api.Token {
	var out []api.Token
	for _, t := range l {
		if stays(t.At.Line) {
			t.At.Line += shift
			out = append(out, t)
		}
	}
	return out
}

// joined returns one list of the elements of several.
func joined[T any](lists ...[]T) []T {
	var out []T
	for _, l := range lists {
		out = append(out, l...)
	}
	return out
}
