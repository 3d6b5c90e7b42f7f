package heir

import "cosigner/api"

// keep returns the elements of a list that are wanted.
func keep[T any](l []T, wanted func(T) bool) []T {
	var out []T
	for _, x := range l {
		if wanted(x) {
			out = append(out, x)
		}
	}
	return out
}

// each returns the results of a function for the elements of a list.
func each[T, U any](l []T, result func(T) U) []U {
	var out []U
	for _, x := range l {
		out = append(out, result(x))
	}
	return out
}

// has tells whether a map has a key.
func has[K comparable, V any](m map[K]V, key K) bool {
	_, found := m[key]
	return found
}

// repeats tells whether a list has an element twice.
func repeats[T comparable](l []T) bool {
	seen := map[T]bool{}
	for _, x := range l {
		if seen[x] {
			return true
		}
		seen[x] = true
	}
	return false
}

func className(c api.Class) string   { return c.Name }
func parentName(p api.Parent) string { return p.Name }
