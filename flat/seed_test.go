package flat_test

import (
	"slices"
	"testing"

	"cosigner/api"
	"cosigner/flat"
)

func origins(t *testing.T, l []api.Class, class, name, want string) {
	t.Helper()
	var all []api.Origin
	for _, o := range names(want) {
		all = append(all, origin(o))
	}
	if got, err := flat.Origins(l, class, name); err != api.OK || !slices.Equal(got, all) {
		t.Errorf("%s of %s: %v %d, want %v", name, class, got, err, all)
	}
}

// seeds checks Names and Selected.
func seeds(t *testing.T, l []api.Class, class, s, want, selected string) {
	t.Helper()
	got, err := flat.Names(l, class, seed(s))
	one, err1 := flat.Selected(l, class, seed(s))
	if want == "" {
		if err != api.ErrNone || err1 != api.ErrNone || len(got) > 0 || one != "" {
			t.Errorf("%s in %s: %v %d %s %d", s, class, got, err, one, err1)
		}
		return
	}
	if err != api.OK || err1 != api.OK || !slices.Equal(got, names(want)) || one != selected {
		t.Errorf("%s in %s: %v %d %s %d, want %s, %s", s, class, got, err, one, err1, want, selected)
	}
}

func version(t *testing.T, l []api.Class, descendant, class, name, want string) {
	t.Helper()
	err := api.OK
	if want == "" {
		err = api.ErrNone
	}
	if got, e := flat.Version(l, descendant, class, name); got != want || e != err {
		t.Errorf("%s of %s in %s: %s %d, want %s", name, class, descendant, got, e, want)
	}
}

// The chapter's examples.
func TestExampleSeeds(t *testing.T) {
	l := system(t, chosen)
	seeds(t, l, "C", "P.a", "a b", "b")
	version(t, l, "C", "P", "a", "b")
	origins(t, l, "C", "n", "A.n B.n")
}

// P4.5
func TestOrigins(t *testing.T) {
	l := system(t, `class P feature { ANY } a do end n : INTEGER ; end
		deferred class Q feature { ANY } q deferred end end
		class A inherit P ; end
		class B inherit P rename a as b redefine b ; feature { ANY } b do end c do end end
		class C inherit B select b ; Q rename q as c ; A redefine a ; feature { ANY } z do end a do end end
		class D inherit C redefine z ; Q rename q as z select z ; feature { ANY } z do end end`)
	for _, c := range []struct{ class, name, want string }{
		{"P", "a", ".a"}, {"P", "n", ".n"}, {"Q", "q", ".q"}, {"A", "a", "P.a"},
		{"B", "b", ".b P.a"}, {"B", "c", ".c"}, {"B", "n", "P.n"},
		{"C", "a", ".a A.a"}, {"C", "b", "B.b"}, {"C", "c", "B.c Q.q"}, {"C", "n", "B.n A.n"}, {"C", "z", ".z"},
		{"D", "c", "C.c"}, {"D", "z", ".z C.z Q.q"},
	} {
		origins(t, l, c.class, c.name, c.want)
	}
}

// P4.6 (Names, Selected)
func TestNames(t *testing.T) {
	l := system(t, `class P feature { ANY } a do end b do end end
		deferred class Q feature { ANY } a deferred end end
		class A inherit P ; end
		class B inherit P rename a as z , b as y ; end
		class C inherit B select z ; A select b ; end
		class D inherit C rename a as z , z as a , b as x ; end
		class E inherit D select z ; end
		class F inherit D redefine a ; Q ; feature { ANY } a do end end
		class G inherit A redefine a ; feature { ANY } a do end c do end end`)
	for _, c := range []struct{ class, seed, names, selected string }{
		{"P", "P.a", "a", "a"}, {"P", "P.b", "b", "b"}, {"A", "P.a", "a", "a"}, {"B", "P.a", "z", "z"}, {"B", "P.b", "y", "y"},
		{"C", "P.a", "a z", "z"}, {"C", "P.b", "b y", "b"},
		{"D", "P.a", "a z", "a"}, {"D", "P.b", "x y", "x"},
		{"E", "P.a", "a z", "z"}, {"E", "P.b", "x y", "x"},
		{"F", "P.a", "a z", "a"}, {"F", "Q.a", "a", "a"},
		{"G", "P.a", "a", "a"}, {"G", "G.c", "c", "c"},
		// Seeds that a class does not have.
		{"G", "G.a", "", ""}, {"G", "A.a", "", ""}, {"P", "Q.a", "", ""}, {"P", "P.z", "", ""}, {"P", "X.a", "", ""}, {"P", ".a", "", ""}, {"P", "P.", "", ""}, {"P", "A.a", "", ""}, {"B", "B.z", "", ""},
	} {
		seeds(t, l, c.class, c.seed, c.names, c.selected)
	}
}

// P4.6 (Version)
func TestVersion(t *testing.T) {
	l := system(t, `class P feature { ANY } a do end b do end n : INTEGER ; end
		class A inherit P ; end
		class B inherit P rename a as z , b as a redefine z ; feature { ANY } z do end end
		class C inherit A rename b as y select a , y ; B rename z as x , a as z ; end
		class D inherit C rename a as z , z as a ; end`)
	for _, c := range []struct{ descendant, class, name, want string }{
		{"P", "P", "a", "a"}, {"P", "P", "n", "n"}, {"A", "P", "a", "a"},
		{"B", "P", "a", "z"}, {"B", "P", "b", "a"}, {"B", "P", "n", "n"}, {"B", "B", "a", "a"}, {"B", "B", "z", "z"},
		{"C", "P", "a", "a"}, {"C", "P", "b", "y"}, {"C", "P", "n", "n"}, {"C", "A", "a", "a"}, {"C", "A", "b", "y"}, {"C", "B", "z", "a"}, {"C", "B", "a", "y"},
		{"C", "C", "a", "a"}, {"C", "C", "x", "a"}, {"C", "C", "y", "y"}, {"C", "C", "z", "y"},
		{"D", "P", "a", "z"}, {"D", "P", "b", "y"}, {"D", "C", "x", "z"}, {"D", "C", "z", "y"}, {"D", "D", "a", "y"},
		// The class is no ancestor, though the descendant has the seeds.
		{"P", "A", "a", ""}, {"A", "B", "z", ""}, {"A", "D", "a", ""}, {"B", "A", "a", ""}, {"C", "D", "a", ""},
	} {
		version(t, l, c.descendant, c.class, c.name, c.want)
	}
}

// joined is a system in which the feature a of A has two seeds, and so have a and b of B, of which b is selected.
const joined = `deferred class P feature { ANY } p deferred end end
	deferred class Q feature { ANY } q deferred end end
	deferred class A inherit Q rename q as a ; P rename p as a ; end
	deferred class AA inherit A rename a as b ; end
	deferred class B inherit A ; AA select b ; end `

// P4.6 (Version): features with some of the seeds alone are no versions.
func TestVersionOfAllSeeds(t *testing.T) {
	l := system(t, joined+"deferred class C inherit A select a ; P ; Q ; end deferred class D inherit P rename p as a ; Q rename q as b ; A rename a as c select c ; end")
	version(t, l, "A", "P", "p", "a")
	version(t, l, "A", "Q", "q", "a")
	version(t, l, "B", "P", "p", "b")
	version(t, l, "B", "A", "a", "b")
	version(t, l, "B", "AA", "b", "b")
	for _, name := range names("a p q") {
		version(t, l, "C", "C", name, "a")
	}
	version(t, l, "C", "A", "a", "a")
	version(t, l, "C", "P", "p", "a")
	for _, name := range names("a b c") {
		version(t, l, "D", "D", name, "c")
	}
	version(t, l, "D", "A", "a", "c")
}

// P4.6 (Version): if several features have all seeds, it is the one that is selected for the first seed; there is none if this is none of them.
func TestVersionOfNone(t *testing.T) {
	l := system(t, joined+"deferred class C inherit P select p ; B ; end deferred class D inherit Q select q ; B ; end")
	seeds(t, l, "C", "P.p", "a b p", "p")
	seeds(t, l, "C", "Q.q", "a b", "b")
	seeds(t, l, "D", "P.p", "a b", "b")
	seeds(t, l, "D", "Q.q", "a b q", "q")
	for _, c := range []struct{ class, name string }{{"A", "a"}, {"AA", "b"}, {"B", "a"}, {"B", "b"}} {
		version(t, l, "C", c.class, c.name, "")
		version(t, l, "D", c.class, c.name, "b")
	}
	version(t, l, "C", "C", "a", "")
	version(t, l, "C", "C", "b", "")
	version(t, l, "D", "D", "a", "b")
	version(t, l, "C", "P", "p", "p")
	version(t, l, "C", "Q", "q", "b")
	version(t, l, "D", "P", "p", "b")
	version(t, l, "D", "Q", "q", "q")
}
