package mean

// each returns the results of a function for the elements of a list.
func each[T, U any](l []T, result func(T) U) []U {
	out := make([]U, 0, len(l))
	for _, x := range l {
		out = append(out, result(x))
	}
	return out
}

// keep returns the elements of a list that are wanted.
func keep[T any](l []T, wanted func(T) bool) []T {
	var out []T
	for _, x := range l {
		if wanted(x) {
			out = append(out, x)
		}
	}
	return out
}

// find returns the first element of a list that is wanted, where it lies; nil if there is none.
func find[T any](l []T, wanted func(*T) bool) *T {
	for i := range l {
		if wanted(&l[i]) {
			return &l[i]
		}
	}
	return nil
}

// remembered returns what a map has for a key; it is asked for if the map has nothing yet.
func remembered[K comparable, V any](m map[K]V, key K, ask func() V) V {
	v, found := m[key]
	if !found {
		v = ask()
		m[key] = v
	}
	return v
}
