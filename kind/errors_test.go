package kind_test

import (
	"reflect"
	"testing"

	"cosigner/api"
	"cosigner/kind"
)

// withClass are the functions with a class, and withTypes those with types that must be right in it.
func withClass() []string {
	return append(withTypes(), "Bound")
}

func withTypes() []string {
	return append([]string{"Right", "Supers"}, withTwo()...)
}

// withTwo are the functions with two types in a class.
func withTwo() []string {
	return []string{"Conforms", "Why", "CheckWhy", "Joins"}
}

// Functions: the error of Check comes first, whatever else is wrong.
func TestErrorsOfSystems(t *testing.T) {
	for _, c := range []struct {
		text  string
		want  api.Errno
		class string
	}{
		{"A (A)", api.ErrCycle, "A"},
		{"A; A", api.ErrTwice, "A"},
		{"A; a", api.ErrName, "a"},
		{"A (B)", api.ErrNone, "A"},
		{"A (B, C, D, E, F); B; C; D; E; F", api.ErrLimit, "A"},
		{"A [G: ANY, H: ANY, K: ANY, L: ANY]", api.ErrLimit, "A"},
		{"A [G: A]", api.ErrType, "A"},
		{"A [G: ANY]; B (A [INTEGER])", api.ErrType, "B"},
		{"A [G: ANY]; B (A ['G])", api.ErrNone, "B"},
		{"A [G: ANY]; B [G: ANY] (A [G [A]])", api.ErrForm, "B"},
		{"A [G: ANY]; B (A [A [B]]); C (B, A [B])", api.ErrClash, "C"},
	} {
		l := system(c.text)
		checks(t, l, c.want, c.class)
		fail(t, calls(l, "Z", typed("Z [A]"), typed("INTEGER [A]"), "Z", "Z"), c.want)
		fail(t, calls(l, "A", typed("INTEGER"), typed("INTEGER"), "ANY", "G"), c.want)
	}
	fail(t, calls(nil, "A", typed("ANY"), typed("ANY"), "ANY", "G"), api.ErrNone, withClass()...)
}

// Functions: a class that is none of the system comes ahead of what is wrong with types.
func TestErrorsOfClasses(t *testing.T) {
	l := system(example)
	for _, class := range []string{"Z", "", "ANY", "NONE", "G", "words"} {
		fail(t, calls(l, class, typed("separate 'G"), typed("INTEGER [A]"), "LIST", "G"), api.ErrNone, withClass()...)
		fail(t, calls(l, class, typed("TEXT"), typed("TEXT"), "LIST", "G"), api.ErrNone, withClass()...)
	}
}

// Functions: types that are handed in are asked for in order.
func TestErrorsOfTypes(t *testing.T) {
	l := system(example)
	wrong := map[string]api.Errno{
		"separate 'G":                            api.ErrForm,
		"'H":                                     api.ErrNone,
		"LIST":                                   api.ErrType,
		"detachable INTEGER":                     api.ErrForm,
		nested("LIST", api.MaxNest+1, "INTEGER"): api.ErrLimit,
	}
	for text, want := range wrong {
		fail(t, calls(l, "LIST", typed(text), typed("ANY"), "LIST", "G"), want, withTypes()...)
		fail(t, calls(l, "LIST", typed("ANY"), typed(text), "LIST", "G"), want, withTwo()...)
		for other := range wrong {
			fail(t, calls(l, "LIST", typed(text), typed(other), "LIST", "G"), want, withTypes()...)
		}
	}
	// What is right in one class is not so in another one.
	fail(t, calls(l, "SORTED", typed("'G"), typed("'H"), "LIST", "H"), api.ErrNone, withTypes()...)
	fail(t, calls(l, "SORTED", typed("'H"), typed("'G"), "LIST", "H"), api.ErrNone, withTwo()...)
	fail(t, calls(l, "SORTED", typed("'H"), typed("'H"), "LIST", "H"), api.OK, withClass()...)
	// A reason that holds no more is asked for last.
	if err := kind.CheckWhy(l, "LIST", typed("LIST"), typed("ANY"), api.Reason{Rule: api.RuAny}); err != api.ErrType {
		t.Error(err)
	}
}

// R6: arguments stay as they are, and results share no memory with them, or within themselves.
func TestMemory(t *testing.T) {
	r := newChance(12)
	for range 300 {
		l := copied(r.system(7))
		c := pick(r, l...)
		s := copied(r.typeIn(l, c))
		u := copied(r.related(l, c, s))
		args := copied(r.args(l, c, c.Formals, 2))
		arguments := []any{l, s, u, args}
		was := []any{copied(l), copied(s), copied(u), copied(args)}
		values := append(arguments, kind.Subst(c.Formals, args, s))
		for _, x := range calls(l, c.Name, s, u, pick(r, l...).Name, "X") {
			values = append(values, x.results...)
		}
		apart(t, values...)
		for i, x := range arguments {
			if !alikeValues(reflect.ValueOf(x), reflect.ValueOf(was[i])) {
				t.Fatalf("%v, was %v", x, was[i])
			}
		}
	}
}

// R6: what is replaced by one type in several places has its own memory in each.
func TestMemoryOfReplacedTypes(t *testing.T) {
	l := system("X; L [G: ANY]; P [G: ANY, H: ANY]; A [G: ANY] (P [G, L [G]]); B [G: ANY] (A [G], L [P [G, G]])")
	u := typed("B [L [X]]")
	instance, _ := kind.Instance(l, u, "P")
	pair, _ := kind.Instance(l, u, "L")
	seen, _ := kind.Seen(l, u, "P", typed("P ['H, 'G]"))
	all, _ := kind.Supers(l, "X", u)
	least, _ := kind.Joins(l, "X", u, typed("B [L [X]]"))
	plain, _ := kind.Joins(l, "X", typed("Void"), u)
	own, _ := kind.Joins(l, "B", typed("'G"), typed("'G"))
	formals, args := formalsOf("G: ANY, H: ANY"), []api.Type{typed("L [X]"), typed("L [L [X]]")}
	if len(instance) != 2 || len(pair) != 1 || len(seen.Args) != 2 || len(all) != 5 || len(least) != 1 || len(plain) != 1 || len(own) != 1 {
		t.Fatal(instance, pair, seen, all, least, plain, own)
	}
	stays := typed("P [X, L [X]]")
	apart(t, l, u, instance, pair, seen, all, least, plain, own, formals, args, stays,
		kind.Subst(formals, args, typed("P ['G, P ['G, 'H]]")), kind.Subst(formals, args, typed("'G")), kind.Subst(formals, args, stays), kind.Subst(nil, nil, stays))
}
