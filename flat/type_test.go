package flat_test

import (
	"fmt"
	"math/rand"
	"strings"
	"testing"

	"cosigner/api"
	"cosigner/flat"
)

// typed returns the type of a text: words for Void and Sep, a mark ahead of the name of a formal, and actual types in brackets, parted by commas.
func typed(text string) api.Type {
	text = strings.TrimSpace(text)
	t := api.Type{Kind: api.TyClass}
	if rest, is := strings.CutPrefix(text, "detachable "); is {
		t.Void, text = true, rest
	}
	if rest, is := strings.CutPrefix(text, "separate "); is {
		t.Sep, text = true, rest
	}
	if head, rest, is := strings.Cut(text, "["); is {
		text = head
		for _, part := range parted(strings.TrimSuffix(rest, "]")) {
			t.Args = append(t.Args, typed(part))
		}
	}
	switch {
	case text == "INTEGER":
		t.Kind, text = api.TyInt, ""
	case text == "BOOLEAN":
		t.Kind, text = api.TyBool, ""
	case text == "NOTHING":
		t.Kind, text = api.TyNone, ""
	case strings.HasPrefix(text, "'"):
		t.Kind, text = api.TyFormal, text[1:]
	}
	t.Name = text
	return t
}

// parted returns the parts of a text between the commas that stand in no brackets.
func parted(text string) []string {
	var out []string
	depth, from := 0, 0
	for i, b := range []byte(text + ",") {
		switch b {
		case '[':
			depth++
		case ']':
			depth--
		case ',':
			if depth == 0 {
				out, from = append(out, (text + ",")[from:i]), i+1
			}
		}
	}
	return out
}

// P4.1 (Subst)
func TestSubst(t *testing.T) {
	for _, c := range []struct{ text, formals, args, want string }{
		{"detachable 'G", "G", "X", "detachable X"},
		{"'G", "G", "X", "X"},
		{"'G", "G", "detachable X", "detachable X"},
		{"'G", "G", "separate X", "separate X"},
		{"separate 'G", "G", "X", "separate X"},
		{"detachable 'G", "G", "separate X", "detachable separate X"},
		{"separate 'G", "G", "detachable X", "detachable separate X"},
		{"detachable separate 'G", "G", "detachable separate X", "detachable separate X"},
		{"detachable 'G", "G", "INTEGER", "detachable INTEGER"},
		{"separate 'G", "G", "NOTHING", "separate NOTHING"},
		{"detachable 'G", "G", "'H", "detachable 'H"},
		{"'G", "G", "L[detachable 'G, X]", "L[detachable 'G, X]"},
		{"detachable 'G", "G", "L['H, X]", "detachable L['H, X]"},
		// Others remain.
		{"G", "G", "X", "G"},
		{"'H", "G", "X", "'H"},
		{"detachable separate 'H", "G", "X", "detachable separate 'H"},
		{"INTEGER", "G", "X", "INTEGER"}, {"BOOLEAN", "G", "X", "BOOLEAN"}, {"NOTHING", "G", "X", "NOTHING"},
		{"detachable X", "", "", "detachable X"}, {"'G", "", "", "'G"},
		{"X[Y, separate Z[W]]", "G", "X", "X[Y, separate Z[W]]"},
		// Within actual types, however deep, and in whatever kind of type.
		{"L['G]", "G", "X", "L[X]"},
		{"detachable L['G, 'H, K[K[detachable 'G], 'I]]", "G H", "X, separate 'I", "detachable L[X, separate 'I, K[K[detachable X], 'I]]"},
		{"separate M['H]", "G H", "X, Y[X]", "separate M[Y[X]]"},
		{"'H['G]", "G", "X", "'H[X]"}, {"INTEGER['G]", "G", "X", "INTEGER[X]"},
		// A formal that is replaced is gone, with its own actual types; those of what it becomes stay.
		{"'G['G, A]", "G", "X[B]", "X[B]"},
		// All at once.
		{"P['G, 'H]", "G H", "'H, 'G", "P['H, 'G]"},
		{"P['I, 'H, 'G]", "G H I", "A, B, C", "P[C, B, A]"},
		{"'G", "G", "'G", "'G"}, {"detachable 'G", "G", "P['G]", "detachable P['G]"},
	} {
		var formals []api.Formal
		for _, name := range names(c.formals) {
			formals = append(formals, api.Formal{Name: name, Bound: "ANY"})
		}
		var args []api.Type
		if c.args != "" {
			for _, part := range parted(c.args) {
				args = append(args, typed(part))
			}
		}
		got, e := flat.Subst(typed(c.text), formals, args)
		if e != api.OK || typeText(got) != c.want || !alike(got, typed(c.want)) {
			t.Errorf("%s by %s: %s is %s (%d), want %s", c.text, c.formals, c.args, typeText(got), e, c.want)
		}
	}
}

// P4.1 (Subst): as many formals as types.
func TestSubstErrors(t *testing.T) {
	for n := range 6 {
		for m := range 6 {
			got, e := flat.Subst(typed("X['G0]"), formals(n), types(m))
			if (e == api.OK) != (n == m) || n != m && (e != api.ErrForm || !isZero(got)) {
				t.Error(n, m, got, e)
			}
		}
	}
}

// typeByChance returns a type of whatever form that is at most n deep.
func typeByChance(r *rand.Rand, n int) api.Type {
	t := api.Type{Kind: r.Intn(5), Name: names("G H I X Y")[r.Intn(5)], Void: r.Intn(2) == 0, Sep: r.Intn(2) == 0}
	for range r.Intn(min(n, 4)) {
		t.Args = append(t.Args, typeByChance(r, n-1))
	}
	return t
}

// P4.1 (Subst): the type at each place of the result is told by the places of the type, and of the actual types.
func TestSubstByChance(t *testing.T) {
	r := rand.New(rand.NewSource(411))
	for range 3000 {
		whole := typeByChance(r, 5)
		all := names("G H I")[:r.Intn(4)]
		r.Shuffle(len(all), func(i, j int) { all[i], all[j] = all[j], all[i] })
		var formals []api.Formal
		actual := map[string]api.Type{}
		var args []api.Type
		for _, name := range all {
			formals = append(formals, api.Formal{Name: name})
			args = append(args, typeByChance(r, 3))
			actual[name] = args[len(args)-1]
		}
		before := fmt.Sprint(whole, formals, args)
		got, e := flat.Subst(whole, formals, args)
		if e != api.OK || typeText(got) != replacedText(whole, actual) || !isReplaced(whole, got, actual) {
			t.Fatal(typeText(whole), all, typeText(got), e)
		}
		if before != fmt.Sprint(whole, formals, args) {
			t.Fatal("an argument is changed")
		}
		again, _ := flat.Subst(whole, formals, args)
		apart(t, whole, args, got, again)
	}
}

// replacedText returns the text of a type in which formals are replaced.
func replacedText(t api.Type, actual map[string]api.Type) string {
	head := api.Type{Kind: t.Kind, Name: t.Name, Void: t.Void, Sep: t.Sep}
	rest := t.Args
	if a, is := actual[t.Name]; is && t.Kind == api.TyFormal {
		a.Void, a.Sep = a.Void || t.Void, a.Sep || t.Sep
		return typeText(a)
	}
	var args []string
	for _, arg := range rest {
		args = append(args, replacedText(arg, actual))
	}
	if len(args) == 0 {
		return typeText(head)
	}
	return typeText(head) + "[" + strings.Join(args, ", ") + "]"
}

// isReplaced tells whether a type is another one in which formals are replaced.
func isReplaced(t, got api.Type, actual map[string]api.Type) bool {
	if a, is := actual[t.Name]; is && t.Kind == api.TyFormal {
		return got.Kind == a.Kind && got.Name == a.Name && got.Void == (a.Void || t.Void) && got.Sep == (a.Sep || t.Sep) && alike(got.Args, a.Args)
	}
	if got.Kind != t.Kind || got.Name != t.Name || got.Void != t.Void || got.Sep != t.Sep || len(got.Args) != len(t.Args) {
		return false
	}
	for i := range t.Args {
		if !isReplaced(t.Args[i], got.Args[i], actual) {
			return false
		}
	}
	return true
}
