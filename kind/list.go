package kind

import "slices"

// keep returns the elements of a list that are wanted.
func keep[T any](l []T, wanted func(T) bool) []T {
	var out []T
	for _, x := range l {
		if wanted(x) {
			out = append(out, x)
		}
	}
	return out
}

// each returns the results of a function for the elements of a list.
func each[T, U any](l []T, result func(T) U) []U {
	out := slices.Grow([]U(nil), len(l))
	for _, x := range l {
		out = append(out, result(x))
	}
	return out
}

// has tells whether a map has a key.
func has[K comparable, V any](m map[K]V, key K) bool {
	_, found := m[key]
	return found
}
