package flat_test

import (
	"fmt"
	"math/rand"
	"slices"
	"strings"
	"testing"

	"cosigner/api"
	"cosigner/flat"
	"cosigner/heir"
	"cosigner/lex"
)

func checks(t *testing.T, l []api.Class, want api.Errno, class string) {
	t.Helper()
	if e, name := flat.Check(l); e != want || name != class {
		t.Errorf("%v: %d %q, want %d %q", l, e, name, want, class)
	}
}

// routines returns n procedures.
func routines(n int) []api.Feature {
	var out []api.Feature
	for i := range n {
		out = append(out, api.Feature{Kind: api.FeRoutine, Name: fmt.Sprintf("f%03d", i)})
	}
	return out
}

// formals returns n formals.
func formals(n int) []api.Formal {
	var out []api.Formal
	for i := range n {
		out = append(out, api.Formal{Name: fmt.Sprintf("G%d", i), Bound: "ANY"})
	}
	return out
}

// formalsOf returns formals, each with its bound behind it.
func formalsOf(words ...string) []api.Formal {
	var out []api.Formal
	for i := 0; i < len(words); i += 2 {
		out = append(out, api.Formal{Name: words[i], Bound: words[i+1]})
	}
	return out
}

// renames returns old names, each with its new one behind it.
func renames(words ...string) []api.Pair {
	var out []api.Pair
	for i := 0; i < len(words); i += 2 {
		out = append(out, api.Pair{From: words[i], To: words[i+1]})
	}
	return out
}

func types(n int) []api.Type {
	return slices.Repeat([]api.Type{{Kind: api.TyInt}}, n)
}

// with returns a system of the classes P, with a formal, A, B, with the parent P, and C, of which B is changed.
func with(change func(b *api.Class)) []api.Class {
	l := []api.Class{
		{Name: "P", Formals: formals(1)}, {Name: "A"},
		{Name: "B", Parents: []api.Parent{{Name: "A"}, {Name: "P", Args: types(1)}}}, {Name: "C"},
	}
	change(&l[2])
	return l
}

// P4.1: systems that have the right form.
func TestCheckRight(t *testing.T) {
	checks(t, nil, api.OK, "")
	checks(t, []api.Class{}, api.OK, "")
	checks(t, with(func(*api.Class) {}), api.OK, "")
	for _, text := range []string{example, chosen} {
		checks(t, system(t, text), api.OK, "")
	}
	// Conflicts, types that are none, and bounds that are none are no matter of the form.
	checks(t, system(t, "class A [ G : NONESUCH ] inherit B rename x as y undefine x redefine z ; create q feature { NOBODY } a : NONESUCH [ separate H , G ] ; end class B end"), api.OK, "")
}

// P4.1: the errors of heir.Check, and their names.
func TestCheckHeir(t *testing.T) {
	for text, want := range map[string]api.Errno{
		"class A end class B inherit A ; A ; end": api.ErrTwice, "class A end class B end class B end": api.ErrTwice,
		"class A end class B inherit C ; end": api.ErrNone, "class A end class B inherit B ; end": api.ErrCycle,
		"class A end class B inherit A ; C ; D ; E ; F ; end": api.ErrLimit,
	} {
		checks(t, system(t, text), want, "B")
	}
	checks(t, []api.Class{{Name: "A"}, {Name: "b"}}, api.ErrName, "b")
	checks(t, make([]api.Class, api.MaxClasses+1), api.ErrLimit, "")
	// They come first, whatever is wrong otherwise.
	checks(t, []api.Class{{Name: "A", Formals: formals(9)}, {Name: "B", Parents: []api.Parent{{Name: "B"}}}}, api.ErrCycle, "B")
}

// P4.1: formals.
func TestCheckFormals(t *testing.T) {
	for n := range api.MaxFormals + 1 {
		checks(t, []api.Class{{Name: "A", Formals: formals(n)}}, api.OK, "")
	}
	checks(t, []api.Class{{Name: "A", Formals: formals(api.MaxFormals + 1)}}, api.ErrLimit, "A")
	for _, l := range [][]api.Formal{formalsOf("G", "A", "G", "B"), formalsOf("G", "A", "H", "A", "G", "A"), formalsOf("G", "A", "H", "A", "H", "B"), formalsOf("", "", "", "")} {
		checks(t, []api.Class{{Name: "A", Formals: l}}, api.ErrTwice, "A")
	}
	checks(t, []api.Class{{Name: "A", Formals: formalsOf("", "?", "any", "?", "A", "A")}}, api.OK, "")
}

// P4.1: the number of actual types.
func TestCheckArgs(t *testing.T) {
	for n := range api.MaxFormals + 1 {
		for m := range api.MaxFormals + 2 {
			l := []api.Class{{Name: "A", Parents: []api.Parent{{Name: "P", Args: types(m)}}}, {Name: "P", Formals: formals(n)}}
			if n == m {
				checks(t, l, api.OK, "")
			} else {
				checks(t, l, api.ErrForm, "A")
			}
		}
	}
	checks(t, with(func(b *api.Class) { b.Parents[1].Args = nil }), api.ErrForm, "B")
	checks(t, with(func(b *api.Class) { b.Parents[0].Args = types(1) }), api.ErrForm, "B")
	// The class's own formals do not count.
	checks(t, with(func(b *api.Class) { b.Formals = formals(2) }), api.OK, "")
}

// P4.1: how many features are declared.
func TestCheckManyFeatures(t *testing.T) {
	checks(t, with(func(b *api.Class) { b.Features = routines(api.MaxMembers) }), api.OK, "")
	checks(t, with(func(b *api.Class) { b.Features = routines(api.MaxMembers + 1) }), api.ErrLimit, "B")
}

// smallNames are names of features, and notSmall texts that are none.
func smallNames() []string {
	return append(names("a z a0 z9 a_ a_b_9 q0123456789 ands an classes resultx true_ any none integer boolean o ol olds voi e s"), strings.Repeat("a", api.MaxName))
}

func notSmall() []string {
	long := strings.Repeat("a", api.MaxName)
	out := []string{"", " ", "a ", " a", "and as", "a b", "A", "aA", "Aa", "0", "0a", "9", "_", "_a", "a-b", "a.b", "a\n", "a\x00", "\x00", "ä", "aä", "a\xe4", "`", "{", "a{", "a`", "a/", "a:", "a^", "Result", "True", long + "a", long + "0", strings.Repeat("a", 5000)}
	return append(append(out, lex.Keywords()...), names("true false void current result")...)
}

// P4.1, L1: names of features, and new names.
func TestCheckNames(t *testing.T) {
	feature := func(name string) []api.Class {
		return with(func(b *api.Class) {
			b.Features = []api.Feature{{Kind: api.FeRoutine, Name: "x"}, {Kind: api.FeRoutine, Name: name}}
		})
	}
	rename := func(name string) []api.Class {
		return with(func(b *api.Class) { b.Parents[1].Rename = renames("x", "y", "?", name) })
	}
	for _, name := range smallNames() {
		checks(t, feature(name), api.OK, "")
		checks(t, rename(name), api.OK, "")
	}
	for _, name := range notSmall() {
		checks(t, feature(name), api.ErrName, "B")
		checks(t, rename(name), api.ErrName, "B")
	}
	for b := range 256 {
		for _, name := range []string{string([]byte{byte(b)}), string([]byte{'a', byte(b)}), string([]byte{'a', byte(b), '0'})} {
			if isName(name) {
				checks(t, feature(name+"_1"), api.OK, "")
				checks(t, rename(name), api.OK, "")
			} else {
				checks(t, feature(name), api.ErrName, "B")
				checks(t, rename(name), api.ErrName, "B")
			}
		}
	}
}

// isName tells by layer 1 whether a text is a small name.
func isName(s string) bool {
	kind, _ := lex.Shape(s)
	return kind == api.TkName
}

// P4.1: features of one name, kinds, and attributes.
func TestCheckFeatures(t *testing.T) {
	integer := api.Type{Kind: api.TyInt}
	x := []api.Var{{Name: "x", Type: integer}}
	for _, c := range []struct {
		features []api.Feature
		want     api.Errno
	}{
		{[]api.Feature{{Kind: api.FeAttr, Name: "a", Type: integer}, {Kind: api.FeRoutine, Name: "b"}, {Kind: api.FeDeferred, Name: "c"}}, api.OK},
		{[]api.Feature{{Kind: api.FeRoutine, Name: "a"}, {Kind: api.FeRoutine, Name: "b"}, {Kind: api.FeRoutine, Name: "a"}}, api.ErrTwice},
		{[]api.Feature{{Kind: api.FeRoutine, Name: "b"}, {Kind: api.FeRoutine, Name: "a"}, {Kind: api.FeDeferred, Name: "a", Args: x}}, api.ErrTwice},
		{[]api.Feature{{Kind: 0, Name: "a"}}, api.ErrForm},
		{[]api.Feature{{Kind: 4, Name: "a"}}, api.ErrForm},
		{[]api.Feature{{Kind: -1, Name: "a"}}, api.ErrForm},
		{[]api.Feature{{Kind: 0, Name: "a", Type: integer}}, api.ErrForm},
		{[]api.Feature{{Kind: api.FeAttr, Name: "a"}}, api.ErrForm},
		{[]api.Feature{{Kind: api.FeAttr, Name: "a", Type: api.Type{Name: "A", Void: true}}}, api.ErrForm},
		{[]api.Feature{{Kind: api.FeAttr, Name: "a", Args: x, Type: integer}}, api.ErrForm},
		{[]api.Feature{{Kind: api.FeAttr, Name: "a", Args: []api.Var{}, Type: api.Type{Kind: 77}}}, api.OK},
		{[]api.Feature{{Kind: api.FeAttr, Name: "a", Type: api.Type{Kind: -1}}}, api.OK},
		{[]api.Feature{{Kind: api.FeRoutine, Name: "a", Args: x}, {Kind: api.FeDeferred, Name: "b", Args: x}}, api.OK},
		{[]api.Feature{{Kind: api.FeRoutine, Name: "a", Args: x, Type: integer}, {Kind: api.FeDeferred, Name: "b", Args: x, Type: integer}}, api.OK},
		// Fields that a kind does not use are not looked at.
		{[]api.Feature{{Kind: api.FeAttr, Name: "a", Type: integer, Locals: x, Rescues: true, Body: []api.Stmt{{}}}, {Kind: api.FeDeferred, Name: "b", Body: []api.Stmt{{}}}}, api.OK},
	} {
		class := "B"
		if c.want == api.OK {
			class = ""
		}
		checks(t, with(func(b *api.Class) { b.Features = c.features }), c.want, class)
	}
}

// P4.1: old names that are renamed twice.
func TestCheckRename(t *testing.T) {
	for _, c := range []struct {
		first, second []api.Pair
		want          api.Errno
	}{
		{renames("a", "b", "b", "a"), renames("a", "b"), api.OK},
		{renames("a", "c", "b", "c"), nil, api.OK},
		{nil, renames("", "b", "NO NAME", "b", "and", "c"), api.OK},
		{renames("a", "b", "a", "b"), nil, api.ErrTwice},
		{nil, renames("a", "b", "c", "d", "a", "c"), api.ErrTwice},
		{nil, renames("", "b", "", "c"), api.ErrTwice},
		{renames("a", "b", "a", "b"), renames("a", "B"), api.ErrTwice},
		{renames("a", "b", "a", "B"), nil, api.ErrName},
		{renames("a", "b"), renames("a", "b", "a", "b", "c", "if"), api.ErrName},
	} {
		class := "B"
		if c.want == api.OK {
			class = ""
		}
		l := with(func(b *api.Class) { b.Parents[0].Rename, b.Parents[1].Rename = c.first, c.second })
		checks(t, l, c.want, class)
	}
}

// wrongs are changes of a class that lead to errors, in the order in which these are looked for.
func wrongs() []struct {
	want   api.Errno
	change func(*api.Class)
} {
	return []struct {
		want   api.Errno
		change func(*api.Class)
	}{
		{api.ErrLimit, func(c *api.Class) { c.Formals = append(c.Formals, formals(api.MaxFormals+1)...) }},
		{api.ErrTwice, func(c *api.Class) { c.Formals = append(c.Formals, formals(1)[0], formals(1)[0]) }},
		{api.ErrForm, func(c *api.Class) { c.Parents[0].Args = types(3) }},
		{api.ErrLimit, func(c *api.Class) { c.Features = append(c.Features, routines(api.MaxMembers+1)...) }},
		{api.ErrName, func(c *api.Class) { c.Features = append(c.Features, api.Feature{Name: "A"}, api.Feature{Name: "A"}) }},
		{api.ErrTwice, func(c *api.Class) {
			c.Features = append(c.Features, api.Feature{Kind: api.FeRoutine, Name: "u"}, api.Feature{Name: "u"})
		}},
		{api.ErrForm, func(c *api.Class) { c.Features = append(c.Features, api.Feature{Name: "v"}) }},
		{api.ErrName, func(c *api.Class) { c.Parents[0].Rename = append(c.Parents[0].Rename, api.Pair{From: "a", To: "A"}) }},
		{api.ErrTwice, func(c *api.Class) {
			c.Parents[0].Rename = append(c.Parents[0].Rename, api.Pair{From: "a", To: "a"}, api.Pair{From: "a", To: "a"})
		}},
		{api.ErrName, func(c *api.Class) { c.Parents[1].Rename = []api.Pair{{From: "a", To: "A"}} }},
	}
}

// P4.1: which one of two errors of a class is reported, and of which class.
func TestCheckOrder(t *testing.T) {
	for i, first := range wrongs() {
		l := with(func(b *api.Class) { first.change(b) })
		checks(t, l, first.want, "B")
		for _, second := range wrongs()[i+1:] {
			l := with(func(b *api.Class) {
				first.change(b)
				second.change(b)
			})
			checks(t, l, first.want, "B")
			// The errors of a class come before those of the next one.
			l = with(func(b *api.Class) { second.change(b) })
			later := with(func(*api.Class) {})[2]
			later.Name = "Z"
			first.change(&later)
			checks(t, append(l, later), second.want, "B")
			checks(t, slices.Concat([]api.Class{later}, l), first.want, "Z")
		}
	}
}

// P4.1: within a class each feature is looked at as a whole, and so is each parent's Rename.
func TestCheckOrderWithin(t *testing.T) {
	form, twice, name := api.Feature{Kind: 9, Name: "a"}, api.Feature{Kind: api.FeRoutine, Name: "x"}, api.Feature{Kind: 9, Name: "IF"}
	for _, c := range []struct {
		features []api.Feature
		want     api.Errno
	}{
		{[]api.Feature{twice, form, twice, name}, api.ErrForm},
		{[]api.Feature{twice, twice, form, name}, api.ErrTwice},
		{[]api.Feature{twice, name, twice, form}, api.ErrName},
		{[]api.Feature{name, name}, api.ErrName},
		{[]api.Feature{form, form}, api.ErrForm},
	} {
		checks(t, with(func(b *api.Class) { b.Features = c.features }), c.want, "B")
	}
	twicePairs, namePairs := renames("a", "b", "a", "c"), renames("a", "B")
	checks(t, with(func(b *api.Class) { b.Parents[0].Rename, b.Parents[1].Rename = twicePairs, namePairs }), api.ErrTwice, "B")
	checks(t, with(func(b *api.Class) { b.Parents[1].Rename, b.Parents[0].Rename = twicePairs, namePairs }), api.ErrName, "B")
}

// wantedCheck returns what Check returns, found in another way: every error that there is, with where it is looked for, and of these the first one.
func wantedCheck(l []api.Class) (api.Errno, string) {
	if e, name := heir.Check(l); e != api.OK {
		return e, name
	}
	best, err, class := 1<<60, api.OK, ""
	note := func(at int, e api.Errno, name string) {
		if at < best {
			best, err, class = at, e, name
		}
	}
	for i, c := range l {
		base := i * 1000000
		seen := map[string]bool{}
		for _, f := range c.Formals {
			if seen[f.Name] {
				note(base+2, api.ErrTwice, c.Name)
			}
			seen[f.Name] = true
		}
		if len(c.Formals) > 3 {
			note(base+1, api.ErrLimit, c.Name)
		}
		if len(c.Features) > 60 {
			note(base+4, api.ErrLimit, c.Name)
		}
		for j, p := range c.Parents {
			for _, other := range l {
				if other.Name == p.Name && len(other.Formals) != len(p.Args) {
					note(base+3, api.ErrForm, c.Name)
				}
			}
			froms := map[string]bool{}
			for _, pair := range p.Rename {
				if !isName(pair.To) {
					note(base+100000+10*j, api.ErrName, c.Name)
				}
				if froms[pair.From] {
					note(base+100000+10*j+1, api.ErrTwice, c.Name)
				}
				froms[pair.From] = true
			}
		}
		count := map[string]int{}
		for j, f := range c.Features {
			count[f.Name]++
			if !isName(f.Name) {
				note(base+10+10*j, api.ErrName, c.Name)
			}
			if count[f.Name] > 1 {
				note(base+10+10*j+1, api.ErrTwice, c.Name)
			}
			if f.Kind != 1 && f.Kind != 2 && f.Kind != 3 || f.Kind == 1 && (len(f.Args) != 0 || f.Type.Kind == 0) {
				note(base+10+10*j+2, api.ErrForm, c.Name)
			}
		}
	}
	return err, class
}

// P4.1
func TestCheckByChance(t *testing.T) {
	r := rand.New(rand.NewSource(41))
	some := names("a b c d e f0 if IF X a")
	seen := map[api.Errno]int{}
	for range 20000 {
		var l []api.Class
		for i := range r.Intn(4) {
			c := api.Class{Name: string(rune('A' + i)), Formals: formals(r.Intn(2) + r.Intn(2)*r.Intn(2)*r.Intn(4))}
			if r.Intn(10) == 0 {
				c.Formals = append(c.Formals, api.Formal{Name: "G0"})
			}
			for j := range i {
				if r.Intn(2) == 0 {
					p := api.Parent{Name: l[j].Name, Args: types(len(l[j].Formals))}
					if r.Intn(10) == 0 {
						p.Args = types(r.Intn(3))
					}
					for range r.Intn(3) {
						p.Rename = append(p.Rename, api.Pair{From: some[r.Intn(6)], To: some[r.Intn(6+r.Intn(2)*r.Intn(5))]})
					}
					c.Parents = append(c.Parents, p)
				}
			}
			if r.Intn(40) == 0 {
				c.Features = routines(60 + r.Intn(2))
			}
			for range r.Intn(4) {
				f := api.Feature{Kind: 1 + r.Intn(3), Name: some[r.Intn(5+r.Intn(2)*r.Intn(6))], Type: api.Type{Kind: 1}}
				if r.Intn(12) == 0 {
					f.Kind, f.Type = r.Intn(5), api.Type{Kind: r.Intn(2)}
					f.Args = make([]api.Var, r.Intn(2))
				}
				c.Features = append(c.Features, f)
			}
			l = append(l, c)
		}
		r.Shuffle(len(l), func(i, j int) { l[i], l[j] = l[j], l[i] })
		e, name := wantedCheck(l)
		seen[e]++
		checks(t, l, e, name)
	}
	for _, e := range []api.Errno{api.OK, api.ErrLimit, api.ErrName, api.ErrTwice, api.ErrForm} {
		if seen[e] < 100 {
			t.Error(e, "was wanted only", seen[e], "times")
		}
	}
}

// All functions with a system return the error of Check first (chapter 4, Functions).
func TestErrorsOfCheck(t *testing.T) {
	for _, w := range wrongs() {
		l := with(w.change)
		for _, class := range names("B A Q") {
			fail(t, calls(l, class, "f000", seed("B.f000"), "Q"), w.want)
		}
	}
	for text, want := range map[string]api.Errno{"class A inherit A ; end": api.ErrCycle, "class A inherit B ; end": api.ErrNone, "class A end class A end": api.ErrTwice} {
		fail(t, calls(system(t, text), "A", "a", seed("A.a"), "A"), want)
	}
	fail(t, calls(make([]api.Class, api.MaxClasses+1), "", "", api.Seed{}, ""), api.ErrLimit)
}
