package read

import (
	"iter"

	"cosigner/api"
)

// pieces yields the pieces of tokens: the index of the first token of each one, and that behind its last one.
func pieces(tokens []api.Token) iter.Seq2[int, int] {
	return func(yield func(int, int) bool) {
		from := 0
		for i, t := range tokens {
			if t.Text != "class" {
				continue
			}
			cut := i
			if deferredBegins(tokens[:i]) {
				cut--
			}
			if from < cut && !yield(from, cut) {
				return
			}
			from = cut
		}
		if from < len(tokens) {
			yield(from, len(tokens))
		}
	}
}

// deferredBegins reports whether the last one of the tokens ahead of a `class` is a `deferred` that belongs to this class. Elsewhere it is the one of a feature whose class has no end.
func deferredBegins(ahead []api.Token) bool {
	last := len(ahead) - 1
	if last < 0 || ahead[last].Text != "deferred" {
		return false
	}
	return last == 0 || ahead[last-1].Text == "end"
}
