package flat

import (
	"iter"
	"slices"

	"cosigner/api"
)

// keep returns the elements of a list that are wanted.
func keep[T any](l []T, wanted func(T) bool) []T {
	var out []T
	for _, x := range l {
		if wanted(x) {
			out = append(out, x)
		}
	}
	return out
}

// each returns the results of a function for the elements of a list.
func each[T, U any](l []T, result func(T) U) []U {
	out := make([]U, 0, len(l))
	for _, x := range l {
		out = append(out, result(x))
	}
	return out
}

// pairs yields each two elements of a list, in its order.
func pairs[T any](l []T) iter.Seq2[T, T] {
	return func(yield func(T, T) bool) {
		for i, a := range l {
			for _, b := range l[i+1:] {
				if !yield(a, b) {
					return
				}
			}
		}
	}
}

// has tells whether a map has a key.
func has[K comparable, V any](m map[K]V, key K) bool {
	_, found := m[key]
	return found
}

// repeats tells whether a list has an element twice.
func repeats[T comparable](l []T) bool {
	seen := map[T]bool{}
	for _, x := range l {
		if seen[x] {
			return true
		}
		seen[x] = true
	}
	return false
}

// containsAll tells whether all elements of some are in a list.
func containsAll[T comparable](l, some []T) bool {
	return !slices.ContainsFunc(some, func(x T) bool { return !slices.Contains(l, x) })
}

// byName returns the classes of a system by their names.
func byName(l []api.Class) map[string]api.Class {
	classes := map[string]api.Class{}
	for _, c := range l {
		classes[c.Name] = c
	}
	return classes
}

func formalName(f api.Formal) string   { return f.Name }
func featureName(f api.Feature) string { return f.Name }
func oldName(p api.Pair) string        { return p.From }
