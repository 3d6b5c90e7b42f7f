package flat_test

import (
	"slices"
	"testing"

	"cosigner/api"
	"cosigner/flat"
)

// P4.7 (Declared)
func TestDeclared(t *testing.T) {
	l := system(t, `class P feature { X } a ( x : INTEGER ) : INTEGER require t : 1 ; local y : P do put x ; if True then put 1 ; else put 2 ; end ; ensure u : 2 ; rescue retry ; end n : INTEGER ; end
		deferred class Q feature { ANY } d deferred ensure v : 1 ; end end
		deferred class A inherit P rename a as b , n as a undefine b ; Q rename d as a0 ; end
		class B inherit A redefine b ; Q rename d as a0 ; feature { Y } b ( x : INTEGER ) : INTEGER do put 3 ; end a0 do end end
		class C inherit P ; B rename b as c , a as n , a0 as d select c ; end`)
	for _, c := range []struct{ class, name, at, there string }{
		{"P", "a", "P", "a"}, {"P", "n", "P", "n"}, {"Q", "d", "Q", "d"},
		{"A", "b", "P", "a"}, {"A", "a", "P", "n"}, {"A", "a0", "Q", "d"},
		{"B", "b", "B", "b"}, {"B", "a", "P", "n"}, {"B", "a0", "B", "a0"},
		{"C", "a", "P", "a"}, {"C", "c", "B", "b"}, {"C", "n", "P", "n"}, {"C", "d", "B", "a0"},
	} {
		class := l[slices.Index(namesOf(l), c.at)]
		want, _ := declared(class, c.there)
		if f, at, err := flat.Declared(l, c.class, c.name); err != api.OK || at != c.at || !alike(f, want) {
			t.Errorf("%s of %s: %v %s %d", c.name, c.class, f, at, err)
		}
	}
}

// P4.7 (Open)
func TestOpen(t *testing.T) {
	l := system(t, `class P feature { ANY } any do end
		feature { NONE } none do end
		feature { A } a do end
		feature { B , NONE , X } b do end
		feature { X , ANY } all do end
		feature { INTEGER } integer do end end
		class A inherit P ; end
		class B end
		class C inherit B ; A ; end
		class D inherit P redefine a ; feature { D } a do end end`)
	for name, clients := range map[string]string{"any": "P A B C D", "none": "", "a": "A C", "b": "B C", "all": "P A B C D", "integer": ""} {
		for _, class := range names("P A C") {
			for _, client := range names("P A B C D") {
				want := slices.Contains(names(clients), client)
				if is, err := flat.Open(l, class, name, client); is != want || err != api.OK {
					t.Error(class, name, client, is, err)
				}
			}
			for _, client := range append(names("X ANY NONE INTEGER BOOLEAN any a E"), "", "A B") {
				is, err := flat.Open(l, class, name, client)
				wantErr := api.ErrNone
				if name == "any" || name == "all" {
					wantErr = api.OK
				}
				if is != (wantErr == api.OK) || err != wantErr {
					t.Error(class, name, client, is, err)
				}
			}
		}
	}
	// The clients are those of the member in the class that is asked for.
	for class, want := range map[string]bool{"P": false, "A": false, "D": true} {
		if is, err := flat.Open(l, class, "a", "D"); is != want || err != api.OK {
			t.Error(class, is, err)
		}
	}
	// Without clients nobody is one.
	l[0].Features[0].Clients = nil
	if is, err := flat.Open(l, "P", "any", "P"); is || err != api.OK {
		t.Error(is, err)
	}
}

// P4.7 (Deferred)
func TestDeferred(t *testing.T) {
	l := system(t, `deferred class P feature { ANY } z deferred end b do end a deferred end n : INTEGER ; end
		deferred class A inherit P rename a as c undefine b ; end
		deferred class B inherit P ; feature { ANY } z do end end
		class C inherit A ; B rename a as c ; feature { ANY } c do end end
		deferred class D end`)
	for class, want := range map[string]string{"P": "a z", "A": "b c z", "B": "a", "C": "", "D": ""} {
		if got, err := flat.Deferred(l, class); err != api.OK || !slices.Equal(got, names(want)) {
			t.Error(class, got, err)
		}
	}
}

// P4.3 (MemberOf)
func TestMemberOf(t *testing.T) {
	l := system(t, chosen)
	for _, class := range names("P A B C") {
		for _, want := range flatOf(t, l, class).Members {
			if m, err := flat.MemberOf(l, class, want.Name); err != api.OK || !alike(m, want) {
				t.Error(m, err)
			}
		}
	}
}

// The order of the errors: that of Check, then ErrNone for classes, then those of Clash, then ErrName, then all others (chapter 4, Functions).
func TestErrorsOfNames(t *testing.T) {
	withClass := names("FlatOf MemberOf Origins Names Selected Version Declared Open Deferred")
	withName := names("MemberOf Origins Version Declared Open")
	withSeed := names("Names Selected")
	right, wrong := system(t, chosen), system(t, example)
	for _, class := range append(names("Z ANY NONE a p PP INTEGER"), "", " C") {
		fail(t, calls(right, class, "a", seed("P.a"), "C"), api.ErrNone, withClass...)
		fail(t, calls(right, class, "a", seed("P.a"), "C"), api.OK, "Flats", "Clash", "CheckFlats")
		fail(t, calls(wrong, class, "a", seed("P.a"), "C"), api.ErrNone, withClass...)
		fail(t, calls(wrong, class, "q", seed("P.q"), "Z"), api.ErrNone, withClass...)
		fail(t, calls(nil, class, "a", seed("P.a"), "C"), api.ErrNone, withClass...)
	}
	// A conflict anywhere in the system, whatever class is asked for.
	for _, class := range names("P A B C") {
		fail(t, calls(wrong, class, "a", seed("P.a"), "C"), api.ErrClash, append(withClass, "Flats")...)
		fail(t, calls(wrong, class, "q", seed("P.q"), "Z"), api.ErrClash, append(withClass, "Flats")...)
	}
	for _, name := range append(names("q A aa P.a"), "", "a ") {
		fail(t, calls(right, "C", name, seed("P.a"), "Z"), api.ErrName, withName...)
		fail(t, calls(right, "C", name, seed("P.a"), "Z"), api.OK, "Names", "Selected", "FlatOf", "Deferred")
	}
	fail(t, calls(right, "A", "b", seed("P.a"), "A"), api.ErrName, withName...)
	fail(t, calls(right, "C", "q", seed("P.q"), "Z"), api.ErrNone, withSeed...)
	fail(t, calls(right, "C", "a", seed("P.a"), "C"), api.OK, append(slices.Concat(withClass, names("Flats Clash CheckFlats")), "Flats")...)
}

// The same, of the two classes of Version.
func TestErrorsOfVersion(t *testing.T) {
	right, wrong := system(t, chosen), system(t, example)
	for _, c := range []struct {
		l                       []api.Class
		descendant, class, name string
		want                    api.Errno
	}{
		{right, "C", "Z", "a", api.ErrNone}, {right, "Z", "P", "a", api.ErrNone}, {right, "Z", "Z", "a", api.ErrNone}, {right, "Z", "P", "q", api.ErrNone},
		{wrong, "C", "Z", "a", api.ErrNone}, {wrong, "Z", "P", "a", api.ErrNone}, {wrong, "C", "P", "q", api.ErrClash}, {wrong, "A", "C", "a", api.ErrClash},
		// The name is one of the class, not of the descendant.
		{right, "C", "P", "b", api.ErrName}, {right, "A", "B", "a", api.ErrName}, {right, "P", "A", "q", api.ErrName}, {right, "A", "B", "b", api.ErrNone},
	} {
		if name, err := flat.Version(c.l, c.descendant, c.class, c.name); name != "" || err != c.want {
			t.Error(c.descendant, c.class, c.name, name, err)
		}
	}
}

// full returns a system of which every list has elements, in memory that goes on behind the system.
func full(t *testing.T) []api.Class {
	l := system(t, `deferred class P [ G : ANY , H : ANY ]
		feature { X , Y } a ( x : G ; y : L [ G , H ] ) : M [ G , N [ H ] ] require t : f ( x , 1 ) ; u : 2 ; local z : L [ G ] ; w : H do put 1 + 2 ; check c : a ( 1 , 2 ) ; end ; from put 1 + 1 ; invariant c : 1 + 2 ; until True variant 1 - 1 loop if True then put - 1 ; else put - 2 ; end ; end ; ensure v : f ( x , 1 ) ; w : 2 ; rescue raise 1 ; end
		d deferred require t : 1 ; ensure u : x . y ; end n : L [ G ] ; o : G ; invariant i : f ( 1 , 2 ) ; j : 2 ; end
		class A inherit P [ X [ Y , Z ] , detachable Y ] rename a as b , n as m undefine b redefine d ; create d , b
		feature { Z , W } d require r : 3 ; do ensure s : 4 ; end
		b ( x : X [ Y , Z ] ; y : L [ X [ Y , Z ] , detachable Y ] ) : M [ X [ Y , Z ] , N [ detachable Y ] ] require t : 1 ; do end invariant k : g ( 1 ) ; end
		deferred class B inherit A rename d as e select b , e ; P [ X [ Y , Z ] , detachable Y ] rename n as m , d as f ; feature { ANY } q do end end`)
	return append(make([]api.Class, 0, 2*len(l)), l...)
}

// R6: results are new memory, and arguments are not changed.
func TestMemory(t *testing.T) {
	l := full(t)
	before := copied(l)
	var all []any
	all = append(all, l)
	count := 0
	for range 2 {
		for _, class := range names("P A B") {
			f := flatOf(t, l, class)
			all = append(all, f)
			for _, m := range f.Members {
				for _, c := range calls(l, class, m.Name, m.Seeds[0], "A") {
					if c.err() != api.OK && c.name != "CheckClash" {
						t.Fatal(class, m.Name, c)
					}
					for _, r := range c.results {
						all = append(all, r)
						count++
					}
				}
			}
		}
	}
	apart(t, all...)
	f, _ := flat.Flats(l)
	kept := copied(f)
	if err := flat.CheckFlats(l, f); err != api.OK || !alike(f, kept) {
		t.Error(err)
	}
	if !alike(l, before) || count < 100 {
		t.Error("the system is changed")
	}
	for _, c := range l[:cap(l)][len(l):] {
		if !isZero(c) {
			t.Error("the memory behind the system is changed")
		}
	}
}

// R6: no group is written behind the list of another feature, nor any other element behind another list.
func TestMemoryOfGroups(t *testing.T) {
	l := system(t, `deferred class P feature { ANY } a deferred require t : 1 ; ensure t : 1 ; end end
		deferred class Q feature { ANY } a deferred require t : 2 ; ensure t : 2 ; end end
		deferred class R feature { ANY } a deferred require t : 3 ; ensure t : 3 ; end end
		deferred class S feature { ANY } a deferred require t : 4 ; ensure t : 4 ; end end
		deferred class A inherit P ; Q ; R ; end
		deferred class B inherit A ; S ; end
		deferred class C inherit A ; feature { ANY } a deferred require c : 5 ; ensure c : 5 ; end end
		deferred class D inherit A ; feature { ANY } a deferred require d : 6 ; ensure d : 6 ; end end
		deferred class E inherit A ; end`)
	for class, want := range map[string]string{"A": "", "B": " S{t: 4}", "C": " C{c: 5}", "D": " D{d: 6}", "E": ""} {
		m := flatOf(t, l, class).Members[0]
		want = " P{t: 1} Q{t: 2} R{t: 3}" + want
		if groupText(m.Pre) != want || groupText(m.Post) != want {
			t.Error(class, groupText(m.Pre), groupText(m.Post))
		}
	}
}
