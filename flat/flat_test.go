package flat_test

import (
	"slices"
	"testing"

	"cosigner/api"
	"cosigner/flat"
)

// The chapter's examples.
func TestExampleMembers(t *testing.T) {
	first := "class P feature { ANY } a do end n : INTEGER ; end class A inherit P ; end class B inherit P rename a as b redefine b ; feature { ANY } b do end end"
	has(t, first, "B", "b routine P.a at B.b pre P", "n: INTEGER attribute P.n at P.n pre P")
	has(t, chosen, "C", "a routine P.a at P.a pre P", "b routine P.a at B.b pre P", "n: INTEGER attribute P.n at P.n pre P")
	has(t, chosen, "P", "a routine P.a at P.a pre P", "n: INTEGER attribute P.n at P.n pre P")
}

// P4.3: what a class declares.
func TestMembersDeclared(t *testing.T) {
	has(t, "class A end", "A")
	has(t, `deferred class A feature { ANY }
		z ( x : INTEGER ; y : detachable separate A ) : L [ A ] require t : 1 ; u : 2 ; do end
		b deferred require t : 1 ; ensure v : 3 ; w : 4 ; end
		feature { A , B , NONE } n : BOOLEAN ;
		a_0 : INTEGER do ensure v : 3 ; end
		y deferred end end`, "A",
		"a_0: INTEGER routine A.a_0 at A.a_0 for A B NONE pre A post A{v: 3}",
		"b deferred A.b at A.b pre A{t: 1} post A{v: 3}{w: 4}",
		"n: BOOLEAN attribute A.n at A.n for A B NONE pre A",
		"y deferred A.y at A.y for A B NONE pre A",
		"z (x: INTEGER; y: detachable separate A): L[A] routine A.z at A.z pre A{t: 1}{u: 2}")
	// Formals stay as they are; so does what a body has.
	has(t, "class A [ G : ANY ] feature { ANY } a ( x : G ) : detachable G local y : G do y := x ; rescue retry ; end end", "A",
		"a (x: 'G): detachable 'G routine A.a at A.a pre A")
	// Clauses of an attribute, which no text has.
	f := api.Feature{Kind: api.FeAttr, Name: "a", Type: api.Type{Kind: api.TyInt}, Require: []api.Clause{{Tag: "t"}}, Ensure: []api.Clause{{Tag: "u"}}}
	m, err := flat.MemberOf([]api.Class{{Name: "A", Features: []api.Feature{f}}}, "A", "a")
	if err != api.OK || !alike(m.Pre, []api.Group{{Class: "A", Clauses: f.Require}}) || !alike(m.Post, []api.Group{{Class: "A", Clauses: f.Ensure}}) {
		t.Error(m, err)
	}
}

// P4.3: names are in increasing order byte by byte.
func TestMembersOrder(t *testing.T) {
	has(t, "class P feature { ANY } ab do end a do end end class A inherit P ; feature { ANY } b do end a_ do end a0 do end aa do end end", "A",
		"a routine P.a at P.a pre P", "a0 routine A.a0 at A.a0 pre A", "a_ routine A.a_ at A.a_ pre A", "aa routine A.aa at A.aa pre A", "ab routine P.ab at P.ab pre P", "b routine A.b at A.b pre A")
}

// P4.3: what a class inherits: names, kinds, clients, bodies.
func TestMembersInherited(t *testing.T) {
	p := "deferred class P feature { ANY } a do end feature { X } b : INTEGER do end d ( x : INTEGER ) deferred end n : INTEGER ; end "
	has(t, p+"deferred class A inherit P ; end", "A",
		"a routine P.a at P.a pre P", "b: INTEGER routine P.b at P.b for X pre P", "d (x: INTEGER) deferred P.d at P.d for X pre P", "n: INTEGER attribute P.n at P.n for X pre P")
	has(t, p+"deferred class A inherit P rename a as b , b as c , n as a undefine b , c ; end", "A",
		"a: INTEGER attribute P.n at P.n for X pre P", "b deferred P.a at P.a pre P", "c: INTEGER deferred P.b at P.b for X pre P", "d (x: INTEGER) deferred P.d at P.d for X pre P")
	// Names are changed once in each class, not one after the other.
	has(t, p+"deferred class A inherit P rename a as z ; end deferred class B inherit A rename z as y , b as z ; end", "B",
		"d (x: INTEGER) deferred P.d at P.d for X pre P", "n: INTEGER attribute P.n at P.n for X pre P", "y routine P.a at P.a pre P", "z: INTEGER routine P.b at P.b for X pre P")
	// Undefined in one class, and declared in the next one.
	has(t, "class P feature { ANY } a do end end deferred class A inherit P undefine a ; end class B inherit A ; feature { NONE } a do end end", "B", "a routine P.a at B.a for NONE pre P")
	has(t, "class P feature { ANY } a do end end deferred class A inherit P undefine a ; end class B inherit A ; P ; end", "B", "a routine P.a at P.a pre P")
}

// P4.3: formals are replaced by actual types, class by class.
func TestMembersGeneric(t *testing.T) {
	p := "class P [ G : ANY , H : ANY ] feature { ANY } a ( x : G ; y : L [ detachable H , G ] ) : detachable G do end n : H ; end "
	has(t, p+"class A inherit P [ INTEGER , separate X ] ; end", "A",
		"a (x: INTEGER; y: L[detachable separate X, INTEGER]): detachable INTEGER routine P.a at P.a pre P", "n: separate X attribute P.n at P.n pre P")
	swap := p + "class A [ G : ANY , H : ANY ] inherit P [ H , G ] ; end "
	has(t, swap, "A", "a (x: 'H; y: L[detachable 'G, 'H]): detachable 'H routine P.a at P.a pre P", "n: 'G attribute P.n at P.n pre P")
	has(t, swap+"class B [ K : ANY ] inherit A [ X [ K ] , detachable Y ] ; end", "B",
		"a (x: detachable Y; y: L[detachable X['K], detachable Y]): detachable Y routine P.a at P.a pre P", "n: X['K] attribute P.n at P.n pre P")
	// Assertions are in the words of the class in which they stand.
	has(t, "class P [ G : ANY ] feature { ANY } a ( x : G ) require t : x ; do ensure u : x ; end end class A inherit P [ X ] ; end", "A",
		"a (x: X) routine P.a at P.a pre P{t: x} post P{u: x}")
}

// P4.3: features that become one.
func TestMembersJoined(t *testing.T) {
	l := `deferred class P feature { A } r deferred require t : 1 ; ensure u : 1 ; end end
		deferred class Q feature { B } s deferred require t : 2 ; ensure u : 2 ; end end
		class R feature { C } r require t : 3 ; do ensure u : 3 ; end end
		deferred class S feature { D } r deferred end end `
	has(t, l+"deferred class A inherit P ; Q rename s as r ; end", "A", "r deferred P.r+Q.s at P.r for A pre P{t: 1} Q{t: 2} post P{u: 1} Q{u: 2}")
	has(t, l+"deferred class A inherit Q rename s as r ; P ; end", "A", "r deferred P.r+Q.s at Q.s for B pre Q{t: 2} P{t: 1} post Q{u: 2} P{u: 1}")
	has(t, l+"class A inherit S ; P ; R ; Q rename s as r ; end", "A", "r routine P.r+Q.s+R.r+S.r at R.r for C pre S P{t: 1} R{t: 3} Q{t: 2} post P{u: 1} R{u: 3} Q{u: 2}")
	has(t, l+"deferred class A inherit S ; R undefine r ; P ; end", "A", "r deferred P.r+R.r+S.r at S.r for D pre S R{t: 3} P{t: 1} post R{u: 3} P{u: 1}")
	has(t, l+"deferred class A inherit R undefine r ; S ; end", "A", "r deferred R.r+S.r at R.r for C pre R{t: 3} S post R{u: 3}")
	// What is there along several ways is there once.
	has(t, l+"deferred class A inherit P ; end deferred class B inherit P ; S ; end deferred class C inherit A ; S ; B ; P ; end", "C", "r deferred P.r+S.r at P.r for A pre P{t: 1} S post P{u: 1}")
	has(t, l+"class A inherit R ; end class B inherit A ; R ; end", "B", "r routine R.r at R.r for C pre R{t: 3} post R{u: 3}")
}

// P4.3: the one that stays is the first one that is not deferred: also with its clients.
func TestMembersStaying(t *testing.T) {
	l := "class P feature { X } a do end end deferred class A inherit P undefine a ; end class B inherit P ; end "
	has(t, l+"class C inherit A ; B ; end", "C", "a routine P.a at P.a for X pre P")
	has(t, l+"class C inherit B ; A ; end", "C", "a routine P.a at P.a for X pre P")
	two := "deferred class P feature { X } a deferred end end deferred class Q feature { Y } a deferred end end class R feature { Z } a : INTEGER ; end "
	has(t, two+"deferred class C inherit Q ; P ; end", "C", "a deferred P.a+Q.a at Q.a for Y pre Q P")
	attribute := "deferred class P feature { X } a : INTEGER deferred end end class R feature { Z } a : INTEGER ; end "
	has(t, attribute+"class C inherit P ; R ; end", "C", "a: INTEGER attribute P.a+R.a at R.a for Z pre P R")
}

// P4.3: declarations over inherited features.
func TestMembersRedeclared(t *testing.T) {
	l := `class P feature { A } r ( x : P ) : X require t : x ; do ensure u : x ; end end
		deferred class Q feature { B } r ( x : P ) : Y deferred end end `
	for text, want := range map[string]string{
		"do end":                                "pre P{t: x} Q post P{u: x}",
		"require v : 5 ; do end":                "pre P{t: x} Q C{v: 5} post P{u: x}",
		"do ensure w : 6 ; v : 7 ; end":         "pre P{t: x} Q post P{u: x} C{w: 6}{v: 7}",
		"require t : x ; do ensure u : x ; end": "pre P{t: x} Q C{t: x} post P{u: x} C{u: x}",
	} {
		has(t, l+"class C inherit P redefine r ; Q ; feature { D } r ( x : P ) : Z "+text+" end", "C", "r (x: P): Z routine P.r+Q.r at C.r for D "+want)
	}
	has(t, l+"class C inherit Q ; P redefine r ; feature { ANY } r ( x : P ) : Z do end end", "C", "r (x: P): Z routine P.r+Q.r at C.r pre Q P{t: x} post P{u: x}")
	has(t, l+"deferred class C inherit Q ; P undefine r ; feature { ANY } r ( x : P ) : Z deferred ensure a : 1 ; end end", "C", "r (x: P): Z deferred P.r+Q.r at C.r pre Q P{t: x} post P{u: x} C{a: 1}")
	has(t, "deferred class P feature { A } f : X deferred end end class C inherit P ; feature { B } f : X ; end", "C", "f: X attribute P.f at C.f for B pre P")
	// Seeds are kept through several classes, and so are groups.
	has(t, l+"class C inherit P redefine r ; feature { D } r ( x : P ) : X require c : 1 ; do end end class D inherit C rename r as s redefine s ; feature { E } s ( x : P ) : X require d : 2 ; do ensure e : 3 ; end end", "D",
		"s (x: P): X routine P.r at D.s for E pre P{t: x} C{c: 1} D{d: 2} post P{u: x} D{e: 3}")
	// A declaration of a name that an inherited feature had is a new feature.
	has(t, "class P feature { ANY } a require t : 1 ; do end end class C inherit P rename a as b ; feature { ANY } a do end end", "C", "a routine C.a at C.a pre C", "b routine P.a at P.a pre P{t: 1}")
}

// P4.3: groups are equal if their classes and their clauses are.
func TestGroupsOnce(t *testing.T) {
	// Two features of one class, of which some clauses are the same.
	for _, c := range []struct{ first, second, want string }{
		{"", "", "pre P"},
		{"require t : x + 1 ;", "require t : x + 1 ;", "pre P{t: x + 1}"},
		{"require t : 1 ;", "require u : 1 ;", "pre P{t: 1} P{u: 1}"},
		{"require t : 1 ;", "require t : 2 ;", "pre P{t: 1} P{t: 2}"},
		{"require t : x ;", "require t : y ;", "pre P{t: x} P{t: y}"},
		{"require t : x . f ( 1 ) ;", "require t : f ( x , 1 ) ;", "pre P{t: x . f ( 1 )} P{t: f ( x , 1 )}"},
		{"require t : x + 1 ;", "require t : x + 2 ;", "pre P{t: x + 1} P{t: x + 2}"},
		{"require t : - x ;", "require t : not x ;", "pre P{t: - x} P{t: not x}"},
		{"require t : True ;", "require t : False ;", "pre P{t: True} P{t: False}"},
		{"require t : Void ;", "require t : Current ;", "pre P{t: Void} P{t: Current}"},
		{"require t : 1 ;", "require t : 1 ; u : 2 ;", "pre P{t: 1} P{t: 1}{u: 2}"},
		{"require u : 2 ; t : 1 ;", "require t : 1 ; u : 2 ;", "pre P{u: 2}{t: 1} P{t: 1}{u: 2}"},
		{"", "require t : 1 ;", "pre P P{t: 1}"},
		{"require t : attached x as y ;", "require t : attached x as z ;", "pre P{t: attached x as y} P{t: attached x as z}"},
	} {
		text := "deferred class P feature { ANY } a deferred " + c.first + " end b deferred " + c.second + " end end deferred class A inherit P rename b as c ; end deferred class B inherit P rename b as a , a as c ; end deferred class C inherit A select a , c ; B ; end"
		m, err := flat.MemberOf(system(t, text), "C", "a")
		if err != api.OK || "pre"+groupText(m.Pre) != c.want || len(m.Post) > 0 {
			t.Errorf("%v: %s %d", c, groupText(m.Pre), err)
		}
	}
	// Of other classes.
	has(t, "deferred class P feature { ANY } a deferred require t : 1 ; ensure t : 1 ; end end deferred class Q feature { ANY } a deferred require t : 1 ; ensure t : 1 ; end end deferred class C inherit P ; Q ; end", "C",
		"a deferred P.a+Q.a at P.a pre P{t: 1} Q{t: 1} post P{t: 1} Q{t: 1}")
}

// P4.3: what a flat form has besides its members.
func TestFlatForms(t *testing.T) {
	l := system(t, `deferred class Z invariant z : 1 ; y : 2 ; end
		class A inherit Z ; end
		class B inherit Z ; invariant b : 3 ; end
		deferred class C inherit B ; A ; invariant c : 4 ; end
		class D inherit A ; C ; B ; feature { ANY } d do end end`)
	f := flatOf(t, l, "D")
	if f.Name != "D" || f.Deferred || groupText(f.Invariant) != " Z{z: 1}{y: 2} B{b: 3} C{c: 4}" || len(f.Members) != 1 {
		t.Error(f)
	}
	for class, want := range map[string]string{"Z": " Z{z: 1}{y: 2}", "A": " Z{z: 1}{y: 2}", "B": " Z{z: 1}{y: 2} B{b: 3}", "C": " Z{z: 1}{y: 2} B{b: 3} C{c: 4}"} {
		f := flatOf(t, l, class)
		if groupText(f.Invariant) != want || f.Name != class || f.Deferred != (class == "Z" || class == "C") || len(f.Members) > 0 {
			t.Error(class, f)
		}
	}
	// The order of heir.Above: the parents in order.
	text := "class A invariant a : 1 ; end class B invariant b : 1 ; end class C inherit B ; A ; invariant c : 1 ; end"
	if f := flatOf(t, system(t, text), "C"); groupText(f.Invariant) != " B{b: 1} A{a: 1} C{c: 1}" {
		t.Error(f)
	}
	// Equal clauses of two classes are two groups.
	text = "class A invariant a : 1 ; end class B inherit A ; invariant a : 1 ; end"
	if f := flatOf(t, system(t, text), "B"); groupText(f.Invariant) != " A{a: 1} B{a: 1}" {
		t.Error(f)
	}
}

// P4.3: Flats are in the order of heir.Order, whatever the order of the list.
func TestFlats(t *testing.T) {
	l := system(t, chosen+" class AA end class D inherit AA ; C ; end")
	for range 3 {
		l = slices.Concat(l[2:], l[:2])
		f, err := flat.Flats(l)
		var order []string
		for _, x := range f {
			order = append(order, x.Name)
			if !alike(x, flatOf(t, l, x.Name)) {
				t.Error(x)
			}
		}
		if err != api.OK || !slices.Equal(order, names("AA P A B C D")) {
			t.Error(order, err)
		}
	}
}

// P4.4, P4.13: any other flat forms are not accepted.
func TestCheckFlats(t *testing.T) {
	l := system(t, `deferred class P [ G : ANY ] feature { X , Y } a ( x : G ; y : INTEGER ) : L [ G ] require t : x ; do ensure u : f ( x ) ; end b deferred end invariant i : 1 ; end
		class A inherit P [ Z ] ; feature { ANY } b require r : 2 ; do end n : INTEGER ; end`)
	f, err := flat.Flats(l)
	if err != api.OK || flat.CheckFlats(l, f) != api.OK || flat.CheckFlats(l, copied(f)) != api.OK {
		t.Fatal(f, err)
	}
	count := 0
	for changed := range variants(f) {
		count++
		if err := flat.CheckFlats(l, changed); err != api.ErrProof {
			t.Errorf("%v: %d", changed, err)
		}
	}
	if count < 150 {
		t.Error("only", count, "changes")
	}
	for _, wrong := range [][]api.Flat{nil, {}, f[:1], f[1:], {f[1], f[0]}, {f[0], f[1], f[1]}, {f[0], f[0], f[1]}, {f[0], f[0]}} {
		if err := flat.CheckFlats(l, wrong); err != api.ErrProof {
			t.Error(len(wrong), err)
		}
	}
	// Lists without elements and none are the same.
	if err := flat.CheckFlats(l, filledLists(f)); err != api.OK {
		t.Error(err)
	}
	if err := flat.CheckFlats(nil, nil); err != api.OK {
		t.Error(err)
	}
	if err := flat.CheckFlats(nil, f); err != api.ErrProof {
		t.Error(err)
	}
}

// P4.4, P4.11: of a system with a conflict no flat forms are accepted.
func TestCheckFlatsOfConflicts(t *testing.T) {
	right, _ := flat.Flats(system(t, chosen))
	for _, text := range []string{example, chosen + " class D inherit P select a ; end", "class A inherit P rename x as y ; end class P end"} {
		for _, f := range [][]api.Flat{nil, right, {{Name: "A"}}, {{Name: "P"}, {Name: "A"}}} {
			if err := flat.CheckFlats(system(t, text), f); err != api.ErrProof {
				t.Error(text, err)
			}
		}
	}
}
