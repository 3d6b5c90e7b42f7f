package sure

import "slices"

// keep returns the elements of a list that are wanted.
func keep[T any](l []T, wanted func(T) bool) []T {
	var out []T
	for _, x := range l {
		if wanted(x) {
			out = append(out, x)
		}
	}
	return out
}

// each returns the results of a function for the elements of a list.
func each[T, U any](l []T, result func(T) U) []U {
	out := slices.Grow([]U(nil), len(l))
	for _, x := range l {
		out = append(out, result(x))
	}
	return out
}

// all tells whether something is so of all elements of a list; it is asked until it is not.
func all[T any](l []T, is func(T) bool) bool {
	return !slices.ContainsFunc(l, func(x T) bool { return !is(x) })
}

// unique returns the elements of a list, each one once.
func unique[T comparable](l []T) []T {
	seen := map[T]bool{}
	return keep(l, func(x T) bool {
		was := seen[x]
		seen[x] = true
		return !was
	})
}

// has tells whether a map has a key.
func has[K comparable, V any](m map[K]V, key K) bool {
	_, found := m[key]
	return found
}

// remembered returns what a map has for a key; it is asked for if the map has nothing yet.
func remembered[K comparable, V any](m map[K]V, key K, ask func() V) V {
	if !has(m, key) {
		m[key] = ask()
	}
	return m[key]
}

// merge returns the elements of two sets that are wanted, as they are in the first one, and in the second one.
func merge[T comparable](a, b map[T]bool, wanted func(bool, bool) bool) map[T]bool {
	out := map[T]bool{}
	for x := range a {
		out[x] = true
	}
	for x := range b {
		out[x] = true
	}
	for x := range out {
		if !wanted(a[x], b[x]) {
			delete(out, x)
		}
	}
	return out
}

func both(a, b bool) bool   { return a && b }
func either(a, b bool) bool { return a || b }
