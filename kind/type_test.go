package kind_test

import (
	"testing"

	"cosigner/api"
	"cosigner/kind"
)

// P5.2 (Same): types that differ in one field each.
func TestSame(t *testing.T) {
	types := []api.Type{{}, {Kind: api.TyInt}, {Kind: api.TyClass}, {Kind: 7}, {Name: "A"}, {Void: true}, {Sep: true}, {Void: true, Sep: true}, {Args: []api.Type{{}}}, {Args: []api.Type{{}, {}}}}
	for _, text := range []string{"A", "'A", "detachable A", "separate A", "detachable separate A", "B", "A [B]", "A [B, B]", "A [B, C]", "A [C, B]", "A ['B]", "A [detachable B]", "A [separate B]", "A [B [C]]", "A [B [D]]", "A [B [C], C]"} {
		types = append(types, typed(text))
	}
	for i, a := range types {
		for j, b := range types {
			if kind.Same(a, copied(b)) != (i == j) {
				t.Errorf("%s; %s: %t", typeText(a), typeText(b), i != j)
			}
		}
	}
	if !kind.Same(api.Type{Args: []api.Type{}}, api.Type{}) || !kind.Same(api.Type{Args: []api.Type{{Args: []api.Type{}}}}, api.Type{Args: []api.Type{{}}}) {
		t.Error("an empty list is not none")
	}
}

func rights(t *testing.T, l []api.Class, class string, u api.Type, want api.Errno) {
	t.Helper()
	if err := kind.Right(l, class, u); err != want {
		t.Errorf("%s, in %s: %d, want %d", typeText(u), class, err, want)
	}
}

// P5.2: the chapter's examples, and each error.
func TestRight(t *testing.T) {
	l := system(example + "; DICT [K: COMPARABLE, V: ANY]; RING [E: TEXT] (TEXT, LIST [E])")
	for _, c := range []struct {
		class, text string
		want        api.Errno
	}{
		{"WORDS", "SORTED [TEXT]", api.OK},
		{"WORDS", "SORTED [LIST [TEXT]]", api.ErrType},
		{"WORDS", "LIST [detachable TEXT]", api.ErrType},
		// Plain types, and that of Void.
		{"WORDS", "INTEGER", api.OK},
		{"WORDS", "BOOLEAN", api.OK},
		{"WORDS", "Void", api.OK},
		{"WORDS", "detachable INTEGER", api.ErrForm},
		{"WORDS", "separate INTEGER", api.ErrForm},
		{"WORDS", "detachable BOOLEAN", api.ErrForm},
		{"WORDS", "separate BOOLEAN", api.ErrForm},
		{"WORDS", "detachable Void", api.ErrForm},
		{"WORDS", "separate Void", api.ErrForm},
		{"WORDS", "INTEGER [TEXT]", api.ErrForm},
		{"WORDS", "BOOLEAN [TEXT]", api.ErrForm},
		{"WORDS", "Void [TEXT]", api.ErrForm},
		// Formals.
		{"SORTED", "H", api.OK},
		{"SORTED", "detachable H", api.OK},
		{"SORTED", "separate H", api.ErrForm},
		{"SORTED", "detachable separate H", api.ErrForm},
		{"SORTED", "H [TEXT]", api.ErrForm},
		{"SORTED", "'G", api.ErrNone},
		{"SORTED", "'TEXT", api.ErrNone},
		{"SORTED", "'", api.ErrNone},
		{"SORTED", "separate 'G", api.ErrForm},
		{"SORTED", "'G [TEXT]", api.ErrForm},
		{"DICT", "K", api.OK},
		{"DICT", "V", api.OK},
		{"WORDS", "'H", api.ErrNone},
		// Class types.
		{"WORDS", "TEXT", api.OK},
		{"WORDS", "detachable separate TEXT", api.OK},
		{"WORDS", "separate LIST [TEXT]", api.OK},
		{"WORDS", "WORDS", api.OK},
		{"WORDS", "ANY", api.OK},
		{"WORDS", "detachable separate ANY", api.OK},
		{"WORDS", "ANY [TEXT]", api.ErrType},
		{"WORDS", "TEXT [TEXT]", api.ErrType},
		{"WORDS", "LIST", api.ErrType},
		{"WORDS", "LIST [TEXT, TEXT]", api.ErrType},
		{"WORDS", "DICT [TEXT]", api.ErrType},
		{"WORDS", "DICT [TEXT, TEXT, TEXT]", api.ErrType},
		{"WORDS", "Z", api.ErrNone},
		{"WORDS", "", api.ErrNone},
		{"WORDS", "H", api.ErrNone},
		{"WORDS", "NONE", api.ErrNone},
		{"WORDS", "Z [Z]", api.ErrNone},
		{"SORTED", "LIST [H]", api.OK},
		{"SORTED", "LIST ['G]", api.ErrNone},
		// Actual types.
		{"WORDS", "LIST [INTEGER]", api.ErrType},
		{"WORDS", "LIST [BOOLEAN]", api.ErrType},
		{"WORDS", "LIST [Void]", api.ErrType},
		{"WORDS", "LIST [separate TEXT]", api.ErrType},
		{"WORDS", "LIST [LIST [detachable TEXT]]", api.ErrType},
		{"WORDS", "LIST [LIST [separate TEXT]]", api.ErrType},
		{"SORTED", "LIST [detachable H]", api.ErrType},
		{"WORDS", "LIST [Z]", api.ErrNone},
		{"WORDS", "LIST [detachable Z]", api.ErrType},
		{"WORDS", "LIST [INTEGER [TEXT]]", api.ErrType},
		{"WORDS", "LIST ['H]", api.ErrNone},
		{"SORTED", "LIST [H [H]]", api.ErrForm},
		{"WORDS", "LIST [LIST]", api.ErrType},
		{"WORDS", "LIST [ANY]", api.OK},
		{"WORDS", "LIST [ANY [ANY]]", api.ErrType},
		// Bounds.
		{"WORDS", "SORTED [COMPARABLE]", api.OK},
		{"WORDS", "SORTED [ANY]", api.ErrType},
		{"WORDS", "SORTED [WORDS]", api.ErrType},
		{"WORDS", "SORTED [RING [TEXT]]", api.OK},
		{"WORDS", "SORTED [RING [COMPARABLE]]", api.ErrType},
		{"WORDS", "RING [RING [RING [TEXT]]]", api.OK},
		{"SORTED", "SORTED [H]", api.OK},
		{"SORTED", "RING [H]", api.ErrType},
		{"RING", "SORTED [E]", api.OK},
		{"RING", "RING [E]", api.OK},
		{"LIST", "SORTED [G]", api.ErrType},
		{"LIST", "LIST [G]", api.OK},
		{"DICT", "DICT [K, V]", api.OK},
		{"DICT", "DICT [V, K]", api.ErrType},
		// All errors of an actual type come before those of the next one.
		{"WORDS", "DICT [ANY, Z]", api.ErrType},
		{"WORDS", "DICT [Z, detachable ANY]", api.ErrNone},
		{"WORDS", "DICT [TEXT, Z]", api.ErrNone},
		{"WORDS", "DICT [LIST [Z], LIST]", api.ErrNone},
		{"WORDS", "LIST [DICT [detachable Z, Z]]", api.ErrType},
	} {
		rights(t, l, c.class, in(l, c.class, c.text), c.want)
	}
	for _, c := range []struct {
		t    api.Type
		want api.Errno
	}{
		{api.Type{Kind: api.TyInt, Name: "INTEGER"}, api.ErrForm},
		{api.Type{Kind: api.TyBool, Name: "A"}, api.ErrForm},
		{api.Type{Kind: api.TyNone, Name: "A"}, api.ErrForm},
		{api.Type{Kind: api.TyInt, Args: []api.Type{}}, api.OK},
		{api.Type{Kind: api.TyClass, Name: "TEXT", Args: []api.Type{}}, api.OK},
		{api.Type{Kind: -1}, api.ErrForm},
		{api.Type{Kind: 5, Name: "TEXT"}, api.ErrForm},
		{api.Type{Kind: api.TyClass, Name: "LIST", Args: []api.Type{{Kind: 5}}}, api.ErrType},
	} {
		rights(t, l, "WORDS", c.t, c.want)
	}
}

// P5.2: types that are nested to the limit, and deeper.
func TestRightNesting(t *testing.T) {
	l := system(example + "; DICT [K: COMPARABLE, V: ANY]")
	const most, more = api.MaxNest, api.MaxNest + 1
	for _, c := range []struct {
		text string
		want api.Errno
	}{
		{nested("LIST", most, "TEXT"), api.OK},
		{nested("LIST", more, "TEXT"), api.ErrLimit},
		{nested("LIST", 3*most, "TEXT"), api.ErrLimit},
		{"DICT [TEXT, " + nested("LIST", most-1, "TEXT") + "]", api.OK},
		{"DICT [TEXT, " + nested("LIST", most, "TEXT") + "]", api.ErrLimit},
		// It comes first, whatever the type is.
		{"DICT [Z, " + nested("LIST", most, "TEXT") + "]", api.ErrLimit},
		{nested("INTEGER", more, "TEXT"), api.ErrLimit},
		{nested("Void", more, "TEXT"), api.ErrLimit},
		{nested("'H", more, "TEXT"), api.ErrLimit},
		{nested("'H", most, "TEXT"), api.ErrForm},
		{nested("Z", more, "TEXT"), api.ErrLimit},
		{nested("Z", most, "TEXT"), api.ErrNone},
		{nested("ANY", more, "TEXT"), api.ErrLimit},
		{nested("LIST", most, "Z"), api.ErrNone},
		{nested("LIST", more, "INTEGER"), api.ErrLimit},
		{"SORTED [" + nested("LIST", most, "TEXT") + "]", api.ErrLimit},
	} {
		rights(t, l, "WORDS", typed(c.text), c.want)
	}
	rights(t, l, "WORDS", api.Type{Kind: 9, Args: []api.Type{typed(nested("LIST", most, "TEXT"))}}, api.ErrLimit)
}

// P5.3 (Bound)
func TestBound(t *testing.T) {
	l := system(example + "; DICT [K: COMPARABLE, V: ANY, W: WORDS] (LIST [K])")
	for _, c := range []struct{ class, formal, want string }{
		{"SORTED", "H", "COMPARABLE"},
		{"LIST", "G", "ANY"},
		{"DICT", "K", "COMPARABLE"},
		{"DICT", "V", "ANY"},
		{"DICT", "W", "WORDS"},
		{"SORTED", "G", ""},
		{"DICT", "G", ""},
		{"WORDS", "H", ""},
		{"SORTED", "", ""},
		{"SORTED", "COMPARABLE", ""},
		{"SORTED", "SORTED", ""},
	} {
		b, err := kind.Bound(l, c.class, c.formal)
		if c.want == "" {
			if err != api.ErrNone || !isZero(b) {
				t.Error(c, b, err)
			}
		} else if err != api.OK || !alike(b, api.Type{Kind: api.TyClass, Name: c.want}) {
			t.Error(c, b, err)
		}
	}
}

// P5.3 (Subst)
func TestSubst(t *testing.T) {
	for _, c := range []struct{ text, formals, args, want string }{
		{"'G", "G: ANY", "X", "X"},
		{"detachable 'G", "G: ANY", "X", "detachable X"},
		{"'G", "G: ANY", "detachable X", "detachable X"},
		{"detachable 'G", "G: ANY", "detachable X", "detachable X"},
		// It is separate if the type in its place is, whatever the formal is.
		{"'G", "G: ANY", "separate X", "separate X"},
		{"separate 'G", "G: ANY", "X", "X"},
		{"detachable separate 'G", "G: ANY", "X", "detachable X"},
		{"detachable 'G", "G: ANY", "separate X", "detachable separate X"},
		{"separate 'G", "G: ANY", "detachable X", "detachable X"},
		{"detachable 'G", "G: ANY", "INTEGER", "detachable INTEGER"},
		{"'G", "G: ANY", "Void", "Void"},
		{"'G [X]", "G: ANY", "Y", "Y"},
		// What takes its place is not replaced again.
		{"'G", "G: ANY", "'G", "'G"},
		{"'G", "G: ANY, H: ANY", "'H, X", "'H"},
		{"L ['G, 'H]", "G: ANY, H: ANY", "'H, 'G", "L ['H, 'G]"},
		{"'G", "G: ANY", "L ['G]", "L ['G]"},
		{"detachable 'G", "G: ANY", "L [detachable 'H, X]", "detachable L [detachable 'H, X]"},
		// In class types the actual types are replaced.
		{"L ['G]", "G: ANY", "X", "L [X]"},
		{"detachable separate L [detachable 'G, Y]", "G: ANY", "X", "detachable separate L [detachable X, Y]"},
		{"L [M ['G], 'H, 'G]", "G: ANY, H: X", "X, Y", "L [M [X], Y, X]"},
		// Others stay.
		{"G", "G: ANY", "X", "G"},
		{"'H", "G: ANY", "X", "'H"},
		{"detachable separate 'H", "G: ANY", "X", "detachable separate 'H"},
		{"G ['G]", "G: ANY", "X", "G [X]"},
		{"L [G, 'H]", "G: ANY", "X", "L [G, 'H]"},
		{"'H ['G]", "G: ANY", "X", "'H ['G]"},
		{"INTEGER ['G]", "G: ANY", "X", "INTEGER ['G]"},
		{"BOOLEAN ['G]", "G: ANY", "X", "BOOLEAN ['G]"},
		{"detachable Void ['G]", "G: ANY", "X", "detachable Void ['G]"},
		{"INTEGER", "G: ANY", "X", "INTEGER"},
		{"Void", "G: ANY", "X", "Void"},
		// More formals than types, and more types than formals.
		{"L ['G, 'H]", "G: ANY, H: ANY", "X", "L [X, 'H]"},
		{"L ['G, 'H]", "G: ANY, H: ANY", "", "L ['G, 'H]"},
		{"L ['G, 'H]", "G: ANY", "X, Y", "L [X, 'H]"},
		{"L ['G, 'H]", "", "X, Y", "L ['G, 'H]"},
		// Of two formals with one name the first one counts.
		{"L ['G, 'H]", "G: ANY, G: ANY, H: ANY", "X, Y, Z", "L [X, Z]"},
		{"'", ": ANY", "X", "X"},
	} {
		args := typesIn(nil, "", c.args)
		if got := kind.Subst(formalsOf(c.formals), args, typed(c.text)); typeText(got) != c.want {
			t.Errorf("%s with %s as %s: %s, want %s", c.text, c.args, c.formals, typeText(got), c.want)
		}
	}
	odd := api.Type{Kind: 9, Name: "G", Args: []api.Type{typed("'G")}}
	if got := kind.Subst(formalsOf("G: ANY"), []api.Type{typed("X")}, odd); !alike(got, odd) {
		t.Error(got)
	}
	deep := typed(nested("L", 3*api.MaxNest, "'G"))
	if got := kind.Subst(formalsOf("G: ANY"), []api.Type{typed("X")}, deep); typeText(got) != nested("L", 3*api.MaxNest, "X") {
		t.Error(typeText(got))
	}
}

// P5.3: of types by chance, with formals that are in the list and others.
func TestSubstByChance(t *testing.T) {
	r := newChance(11)
	for range 2000 {
		l := r.classes(5)
		c := pick(r, l...)
		u := r.damaged(r.typeIn(l, c))
		formals := formalsOf(pick(r, "", "X: ANY", "Y: ANY, X: ANY", "X: ANY, X: A, Z: ANY"))
		var args []api.Type
		for range r.Intn(4) {
			args = append(args, r.damaged(r.typeIn(l, c)))
		}
		if got := kind.Subst(formals, args, u); !alike(got, replaced(formals, args, u)) {
			t.Fatalf("%s with %s as %v: %s", typeText(u), typesText(args), formals, typeText(got))
		}
	}
}
