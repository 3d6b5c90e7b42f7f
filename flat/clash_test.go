package flat_test

import (
	"slices"
	"strings"
	"testing"

	"cosigner/api"
	"cosigner/flat"
)

// above is the parent of most classes of this file's tests, and one more.
const above = `
deferred class P feature { ANY } a do end b do end d deferred end n : INTEGER ; end
deferred class Q feature { ANY } e do end end
`

// The chapter's examples.
func TestExampleConflicts(t *testing.T) {
	clashes(t, example, conflict(api.CnSeed, "C", "a b", "P.a"))
	agrees(t, chosen)
	clashes(t, strings.Replace(example, "redefine b ; feature { ANY } b", "; feature { ANY } b", 1), conflict(api.CnTwo, "B", "b", "P.a"))
	clashes(t, strings.Replace(example, "class A inherit P ; end", "class A inherit P undefine n ; end", 1), conflict(api.CnUndo, "A", "n", "P.n"))
}

// P4.2: each row of the table by itself, with what is and what is not a conflict of it.
func TestRows(t *testing.T) {
	for _, c := range []struct {
		text string // the class C, of which the first parent is P
		kind int    // 0: no conflict
		name string
		from string
	}{
		{";", 0, "", ""},
		// Names that are none of the parent's.
		{"rename x as y ;", api.CnLost, "x", "P.x"},
		{"rename a as x , x as y ;", api.CnLost, "x", "P.x"},
		{"undefine x ;", api.CnLost, "x", "P.x"},
		{"redefine x ;", api.CnLost, "x", "P.x"},
		{"redefine x ; feature { ANY } x do end", api.CnLost, "x", "P.x"},
		{"select x ; feature { ANY } x do end", api.CnLost, "x", "P.x"},
		{"select e ; Q ;", api.CnLost, "e", "P.e"},
		{"; Q rename a as b ;", api.CnLost, "a", "Q.a"},
		{"rename a as x undefine a ;", api.CnLost, "a", "P.a"},
		{"rename a as x redefine a ;", api.CnLost, "a", "P.a"},
		{"rename a as x select a ;", api.CnLost, "a", "P.a"},
		{"rename a as x , b as a undefine a ;", 0, "", ""},
		{"rename a as x undefine x ;", 0, "", ""},
		// Names that are undefined and redefined.
		{"undefine a redefine a ; feature { ANY } a do end", api.CnBoth, "a", "P.a"},
		{"rename a as x undefine x redefine x ; feature { ANY } x do end", api.CnBoth, "x", "P.x"},
		{"undefine a redefine b ; feature { ANY } a do end b do end", 0, "", ""},
		// Two features of a parent under one name.
		{"rename a as b ;", api.CnSame, "b", "P.a P.b"},
		{"rename b as a ;", api.CnSame, "a", "P.a P.b"},
		{"rename a as x , n as x ;", api.CnSame, "x", "P.a P.n"},
		{"rename d as x , a as x , n as x ;", api.CnSame, "x", "P.a P.d"},
		{"rename a as b , b as a ;", 0, "", ""},
		{"rename a as b , b as c ;", 0, "", ""},
		{"rename a as a ;", 0, "", ""},
		// Features without a body that are undefined.
		{"undefine n ;", api.CnUndo, "n", "P.n"},
		{"undefine d ;", api.CnUndo, "d", "P.d"},
		{"rename n as x undefine x ;", api.CnUndo, "x", "P.n"},
		{"undefine a , b ;", 0, "", ""},
		{"undefine a ; feature { ANY } a do end", 0, "", ""},
		// Names in Redefine that are not declared.
		{"redefine a ;", api.CnIdle, "a", "P.a"},
		{"redefine d ;", api.CnIdle, "d", "P.d"},
		{"rename a as x redefine x ;", api.CnIdle, "x", "P.x"},
		{"redefine a ; feature { ANY } a do end", 0, "", ""},
		{"redefine d ; feature { ANY } d do end", 0, "", ""},
		// Attributes that are declared.
		{"redefine n ; feature { ANY } n : INTEGER do end", api.CnFixed, "n", "P.n"},
		{"; feature { ANY } n : INTEGER ;", api.CnFixed, "n", "P.n"},
		{"rename n as x redefine x ; feature { ANY } x : INTEGER ;", api.CnFixed, "x", "P.n"},
		{"rename n as x ; feature { ANY } n : INTEGER ;", 0, "", ""},
		// Features with a body that are declared, and not redefined.
		{"; feature { ANY } a do end", api.CnTwo, "a", "P.a"},
		{"rename a as x ; feature { ANY } x do end", api.CnTwo, "x", "P.a"},
		{"redefine b ; feature { ANY } a do end b do end", api.CnTwo, "a", "P.a"},
		{"redefine a ; Q rename e as a ; feature { ANY } a do end", api.CnTwo, "a", "Q.e"},
		{"redefine a ; Q rename e as a redefine a ; feature { ANY } a do end", 0, "", ""},
		{"redefine a ; Q rename e as a undefine a ; feature { ANY } a do end", 0, "", ""},
		{"; feature { ANY } d do end", 0, "", ""},
		// Features with a body that are declared without one.
		{"redefine a ; feature { ANY } a deferred end", api.CnBare, "a", "P.a"},
		{"rename a as x redefine x ; feature { ANY } x deferred end", api.CnBare, "x", "P.a"},
		{"undefine a ; feature { ANY } a deferred end", 0, "", ""},
		{"; feature { ANY } d deferred end", 0, "", ""},
		// Other types.
		{"redefine a ; feature { ANY } a ( x : INTEGER ) do end", api.CnTypes, "a", ".a P.a"},
		{"redefine a ; feature { ANY } a : INTEGER do end", api.CnTypes, "a", ".a P.a"},
		{"; feature { ANY } d : INTEGER ;", api.CnTypes, "d", ".d P.d"},
		{"undefine a ; Q rename e as a redefine a ; feature { ANY } a : INTEGER do end", api.CnTypes, "a", ".a P.a"},
		{"rename d as x ; feature { ANY } d : INTEGER ;", 0, "", ""},
		// Two features with bodies.
		{"rename a as x ; Q rename e as x ;", api.CnMany, "x", "P.a Q.e"},
		{"; Q rename e as a ;", api.CnMany, "a", "P.a Q.e"},
		{"; Q rename e as d ;", 0, "", ""},
		{"undefine a ; Q rename e as a ;", 0, "", ""},
		{"; Q rename e as a undefine a ;", 0, "", ""},
		{"redefine a ; Q rename e as a redefine a ; feature { ANY } a do end", 0, "", ""},
		// Selected features of which no seed has another name.
		{"select a ;", api.CnSelect, "a", "P.a"},
		{"select d ;", api.CnSelect, "d", "P.d"},
		{"rename a as x select x ;", api.CnSelect, "x", "P.x"},
		{"redefine a select a ; feature { ANY } a do end", api.CnSelect, "a", "P.a"},
		// Names that stand in a list twice.
		{"undefine a , a ;", 0, "", ""},
		{"redefine a , a ; feature { ANY } a do end", 0, "", ""},
	} {
		text := above + "deferred class C inherit P " + c.text + " end"
		if c.kind == 0 {
			agrees(t, text)
		} else {
			clashes(t, text, conflict(c.kind, "C", c.name, c.from))
		}
	}
}

// P4.2: CnOpen.
func TestRowOpen(t *testing.T) {
	clashes(t, above+"class C inherit P ; end", conflict(api.CnOpen, "C", "d", ""))
	clashes(t, above+"class C feature { ANY } z deferred end x deferred end y do end end", conflict(api.CnOpen, "C", "x", ""))
	clashes(t, above+"class C inherit P undefine b ; feature { ANY } d do end end", conflict(api.CnOpen, "C", "b", ""))
	clashes(t, above+"class C inherit Q rename e as f ; P rename a as z , d as y ; end", conflict(api.CnOpen, "C", "y", ""))
	agrees(t, above+"deferred class C inherit P ; feature { ANY } z deferred end end")
	agrees(t, above+"class C inherit P ; feature { ANY } d do end end")
	agrees(t, above+"deferred class C inherit Q rename e as f undefine f ; end class D inherit C ; Q rename e as f ; end")
}

// P4.2: CnTypes, of declarations: their arguments, and whether they have a result.
func TestRowTypesOfDeclarations(t *testing.T) {
	for there, heirs := range map[string][]string{
		"":                                     {"( x : INTEGER )", ": INTEGER"},
		": INTEGER":                            {"", "( x : INTEGER ) : INTEGER"},
		"( x : INTEGER )":                      {"", "( y : INTEGER )", "( x : BOOLEAN )", "( x : INTEGER ; y : INTEGER )", "( x : INTEGER ) : INTEGER", "( x : A )"},
		"( x : A ; y : detachable B )":         {"( x : A ; y : B )", "( x : detachable A ; y : detachable B )", "( y : detachable B ; x : A )", "( x : A )", "( x : A ; y : separate B )", "( x : A ; y : detachable separate B )", "( x : A ; y : detachable C )", "( x : A ; y : detachable B [ A ] )"},
		"( x : L [ M [ A ] , B ] ) : L [ A ] ": {"( x : L [ M [ B ] , B ] ) : A", "( x : L [ M [ A , A ] , B ] ) : A", "( x : L [ M [ A ] ] ) : A", "( x : L [ M , B ] ) : A", "( x : L [ M [ A ] , B ] )", "( x : L [ M [ separate A ] , B ] ) : A"},
	} {
		for _, here := range heirs {
			text := "class P feature { ANY } r " + there + " do end end class C inherit P redefine r ; feature { ANY } r " + here + " do end end"
			clashes(t, text, conflict(api.CnTypes, "C", "r", ".r P.r"))
		}
		agrees(t, "class P feature { ANY } r "+there+" do end end class C inherit P redefine r ; feature { ANY } r "+there+" do end end")
	}
	// Results may differ, and so may all else.
	agrees(t, "class P feature { ANY } r ( x : A ) : A do end end class C inherit P redefine r ; feature { B } r ( x : A ) : detachable separate L [ INTEGER ] require t : 1 ; do end end")
	agrees(t, "deferred class P feature { ANY } r : A deferred end end class C inherit P ; feature { ANY } r : INTEGER ; end")
	// The formals of the parent are replaced.
	generic := "class P [ G : ANY ] feature { ANY } r ( x : G ; y : L [ detachable G ] ) do end end "
	agrees(t, generic+"class C inherit P [ X ] redefine r ; feature { ANY } r ( x : X ; y : L [ detachable X ] ) do end end")
	agrees(t, generic+"class C [ H : ANY ] inherit P [ H ] redefine r ; feature { ANY } r ( x : H ; y : L [ detachable H ] ) do end end")
	clashes(t, generic+"class C inherit P [ X ] redefine r ; feature { ANY } r ( x : X ; y : L [ X ] ) do end end", conflict(api.CnTypes, "C", "r", ".r P.r"))
	clashes(t, generic+"class C [ G : ANY ] inherit P [ X ] redefine r ; feature { ANY } r ( x : G ; y : L [ detachable G ] ) do end end", conflict(api.CnTypes, "C", "r", ".r P.r"))
	// Each parent's feature by itself.
	clashes(t, "class P feature { ANY } r do end end class Q feature { ANY } r ( x : A ) do end end class R feature { ANY } r ( y : A ) do end end class C inherit P redefine r ; Q redefine r ; R redefine r ; feature { ANY } r ( y : A ) do end end", conflict(api.CnTypes, "C", "r", ".r P.r"))
	clashes(t, "class P feature { ANY } r do end end class Q feature { ANY } r ( x : A ) do end end class R feature { ANY } r ( y : A ) do end end class C inherit P redefine r ; Q redefine r ; R redefine r ; feature { ANY } r do end end", conflict(api.CnTypes, "C", "r", ".r Q.r"))
}

// P4.2: CnTypes, of inherited features.
func TestRowTypesOfInherited(t *testing.T) {
	for there, others := range map[string][]string{
		"":                {"( x : INTEGER )", ": INTEGER"},
		": A":             {"", ": B", ": detachable A", ": separate A", ": A [ A ]", ": INTEGER", "( x : A ) : A"},
		"( x : A ) : A":   {"( y : A ) : A", "( x : B ) : A", "( x : A ) : B", "( x : A )", "( x : A ; y : A ) : A"},
		": L [ M [ A ] ]": {": L [ M [ B ] ]", ": L [ M ]", ": L [ M [ detachable A ] ]"},
	} {
		p, q := "deferred class P feature { ANY } r "+there+" deferred end end ", "deferred class Q feature { ANY } s "
		for _, other := range others {
			clashes(t, p+q+other+" deferred end end deferred class C inherit P ; Q rename s as r ; end", conflict(api.CnTypes, "C", "r", "P.r Q.s"))
			clashes(t, p+q+other+" deferred end end deferred class C inherit Q rename s as r ; P ; end", conflict(api.CnTypes, "C", "r", "Q.s P.r"))
		}
		agrees(t, p+q+there+" deferred end end deferred class C inherit P ; Q rename s as r ; end")
		agrees(t, p+q+there+" do end end class C inherit P ; Q rename s as r ; end")
	}
	three := "deferred class P feature { ANY } r deferred end end deferred class Q feature { ANY } r deferred end end deferred class R feature { ANY } r : A deferred end end "
	clashes(t, three+"deferred class C inherit P ; Q ; R ; end", conflict(api.CnTypes, "C", "r", "P.r R.r"))
	clashes(t, three+"deferred class C inherit R ; P ; Q ; end", conflict(api.CnTypes, "C", "r", "R.r P.r"))
	generic := "deferred class P [ G : ANY ] feature { ANY } r : L [ G ] deferred end end class Q feature { ANY } r : L [ X ] do end end "
	agrees(t, generic+"class C inherit P [ X ] ; Q ; end")
	clashes(t, generic+"class C inherit P [ Y ] ; Q ; end", conflict(api.CnTypes, "C", "r", "P.r Q.r"))
}

// P4.2: CnMany: what makes two features with bodies the same.
func TestRowMany(t *testing.T) {
	p := "class P [ G : ANY ] feature { ANY } a : G do end n : INTEGER ; end "
	agrees(t, p+"class A inherit P [ X ] ; end class B inherit P [ X ] ; end class C inherit A ; B ; end")
	agrees(t, p+"class A inherit P [ X ] rename a as b ; end class B inherit P [ X ] ; end class C inherit A rename b as a ; B ; end")
	clashes(t, p+"class A inherit P [ X ] redefine a ; feature { ANY } a : X do end end class B inherit P [ X ] ; end class C inherit A ; B ; end", conflict(api.CnMany, "C", "a", "A.a B.a"))
	clashes(t, p+"class A inherit P [ X ] redefine a ; feature { ANY } a : X do end end class B inherit P [ X ] redefine a ; feature { ANY } a : X do end end class C inherit A ; B ; end", conflict(api.CnMany, "C", "a", "A.a B.a"))
	// The same body, but other seeds.
	q := "deferred class Q feature { ANY } a : X deferred end end "
	clashes(t, p+q+"class A inherit P [ X ] ; Q ; end class B inherit P [ X ] ; end class C inherit A ; B ; end", conflict(api.CnMany, "C", "a", "A.a B.a"))
	agrees(t, p+q+"class A inherit P [ X ] ; Q ; end class B inherit Q ; P [ X ] ; end class C inherit A ; B ; end")
	// Attributes.
	clashes(t, "class A feature { ANY } n : INTEGER ; end class B feature { ANY } n : INTEGER ; end class C inherit A ; B ; end", conflict(api.CnMany, "C", "n", "A.n B.n"))
	clashes(t, "class A feature { ANY } n : INTEGER ; end class B feature { ANY } n : INTEGER do end end class C inherit A ; B ; end", conflict(api.CnMany, "C", "n", "A.n B.n"))
	// The first two that are not the same, and not deferred.
	l := "deferred class A feature { ANY } a deferred end end class B feature { ANY } a do end end class D inherit B ; end class E feature { ANY } a do end end "
	clashes(t, l+"class C inherit A ; B ; D ; E ; end", conflict(api.CnMany, "C", "a", "B.a E.a"))
	clashes(t, l+"class C inherit E ; A ; D ; B ; end", conflict(api.CnMany, "C", "a", "E.a D.a"))
	agrees(t, l+"class C inherit D ; A ; B ; end")
}

// P4.2: CnSeed.
func TestRowSeed(t *testing.T) {
	l := "class P feature { ANY } a do end b do end end class A inherit P ; end class B inherit P rename a as c ; end class D inherit P rename a as d , b as c ; end "
	clashes(t, l+"class C inherit A ; B ; end", conflict(api.CnSeed, "C", "a c", "P.a"))
	clashes(t, l+"class C inherit B ; A ; end", conflict(api.CnSeed, "C", "a c", "P.a"))
	agrees(t, l+"class C inherit A select a ; B ; end")
	agrees(t, l+"class C inherit A ; B select c ; end")
	agrees(t, l+"class C inherit A rename a as x select x ; B ; end")
	clashes(t, l+"class C inherit A select a ; B select c ; end", conflict(api.CnSeed, "C", "a c", "P.a"))
	// Selecting at a parent from which nothing with the seed comes under the name selects nothing.
	clashes(t, l+"class Q feature { ANY } q do end end class C inherit Q rename q as x select x ; A ; B ; end", conflict(api.CnSeed, "C", "a c", "P.a"))
	clashes(t, "deferred "+l+"deferred class Q feature { ANY } a deferred end end class C inherit Q select a ; A ; B ; end", conflict(api.CnSeed, "C", "a c", "P.a"))
	// Three names; two seeds.
	three := "class P feature { ANY } a do end b do end end class A inherit P ; end class B inherit P rename a as c ; end class D inherit P rename a as d , b as e ; end "
	clashes(t, three+"class C inherit D ; B ; A ; end", conflict(api.CnSeed, "C", "a c", "P.a"))
	clashes(t, three+"class C inherit D ; B ; A select a ; end", conflict(api.CnSeed, "C", "b e", "P.b"))
	clashes(t, three+"class C inherit D select e ; B ; A ; end", conflict(api.CnSeed, "C", "a c", "P.a"))
	clashes(t, three+"class C inherit D select d , e ; B select c ; A ; end", conflict(api.CnSeed, "C", "a c", "P.a"))
	agrees(t, three+"class C inherit D select e ; B select c ; A ; end")
	// The seeds are gone through by classes first, and then by names.
	seeds := "class P feature { ANY } z do end end class Q feature { ANY } a do end end class B inherit P rename z as y ; Q rename a as b ; end "
	clashes(t, seeds+"class C inherit Q ; P ; B ; end", conflict(api.CnSeed, "C", "y z", "P.z"))
	clashes(t, seeds+"class C inherit Q ; P ; B select y ; end", conflict(api.CnSeed, "C", "a b", "Q.a"))
}

// P4.2, Terms: all features with a seed come from one parent alone, under several names there.
func TestRowSeedOfOneParent(t *testing.T) {
	l := "class P feature { ANY } a do end end class A inherit P ; end class B inherit P rename a as b ; end class D inherit A ; B select b ; end "
	agrees(t, l+"class C inherit D ; end")
	agrees(t, l+"class C inherit D rename a as b , b as a ; end class E inherit C ; end")
	agrees(t, l+"class C inherit D select a ; end")
	agrees(t, l+"class C inherit D redefine a ; feature { ANY } a do end end")
	clashes(t, l+"class C inherit D select a , b ; end", conflict(api.CnSeed, "C", "a b", "P.a"))
	clashes(t, l+"class C inherit D ; A ; end", conflict(api.CnSeed, "C", "a b", "P.a"))
	clashes(t, l+"class C inherit A ; D ; end", conflict(api.CnSeed, "C", "a b", "P.a"))
	clashes(t, l+"class E inherit D ; end class C inherit D ; E ; end", conflict(api.CnSeed, "C", "a b", "P.a"))
	agrees(t, l+"class E inherit D ; end class C inherit D select a ; E ; end")
	agrees(t, l+"class E inherit D ; end class C inherit D select a ; E select a ; end")
}

// P4.2: CnSelect: a seed that has another name, of whichever of the features that became one.
func TestRowSelect(t *testing.T) {
	l := "deferred class P feature { ANY } a deferred end end deferred class Q feature { ANY } q deferred end end deferred class A inherit P rename a as b ; end "
	agrees(t, l+"deferred class C inherit P select a ; A ; end")
	agrees(t, l+"deferred class C inherit P ; A select b ; end")
	clashes(t, l+"deferred class C inherit P select a ; A rename b as a ; end", conflict(api.CnSelect, "C", "a", "P.a"))
	clashes(t, l+"deferred class C inherit P select a ; A select b ; Q select q ; end", conflict(api.CnSeed, "C", "a b", "P.a"))
	clashes(t, l+"deferred class C inherit P select a ; A ; Q select q ; end", conflict(api.CnSelect, "C", "q", "Q.q"))
	agrees(t, l+"deferred class C inherit P select a ; Q rename q as a select a ; A ; end")
	clashes(t, l+"deferred class C inherit Q rename q as a select a ; P rename a as b select b ; A ; end", conflict(api.CnSelect, "C", "a", "Q.a"))
}

// P4.2: CnApart: features with a common seed that have other types.
func TestRowApart(t *testing.T) {
	l := "class P [ G : ANY ] feature { ANY } a : G do end b : G do end end class A inherit P [ X ] ; end class B inherit P [ Y ] rename a as c , b as d ; end "
	clashes(t, l+"class C inherit A select a , b ; B ; end", conflict(api.CnApart, "C", "a c", "P.a"))
	clashes(t, l+"class C inherit A rename b as z select a , z ; B ; end", conflict(api.CnApart, "C", "a c", "P.a"))
	clashes(t, l+"class C inherit B rename c as z select z , d ; A ; end", conflict(api.CnApart, "C", "a z", "P.a"))
	agrees(t, strings.Replace(l, "P [ Y ]", "P [ X ]", 1)+"class C inherit A select a , b ; B ; end")
	// Of declarations, too, and of arguments.
	agrees(t, "class P feature { ANY } a : X do end end class A inherit P ; end class B inherit P rename a as b redefine b ; feature { ANY } b : X do end end class C inherit A select a ; B ; end")
	clashes(t, "class P feature { ANY } a : X do end end class A inherit P ; end class B inherit P rename a as b redefine b ; feature { ANY } b : detachable X do end end class C inherit A select a ; B ; end", conflict(api.CnApart, "C", "a b", "P.a"))
	clashes(t, "class P [ G : ANY ] feature { ANY } a ( x : G ) do end end class A inherit P [ X ] rename a as b ; end class C inherit P [ Y ] ; A select b ; end", conflict(api.CnApart, "C", "a b", "P.a"))
	// Three names, of which the first two agree.
	three := "class P [ G : ANY ] feature { ANY } a : G do end end class A inherit P [ X ] ; end class B inherit P [ X ] rename a as b ; end class D inherit P [ Y ] rename a as d ; end "
	clashes(t, three+"class C inherit D ; B ; A select a ; end", conflict(api.CnApart, "C", "a d", "P.a"))
}

// part is what a class has so that there is a conflict in it: other classes, its parents, and what it declares.
type part struct {
	classes, parents, features string
	want                       api.Conflict
}

// rowParts returns, by the kinds, a part with a conflict of each kind (its first one); they have nothing in common.
func rowParts() []part {
	return []part{
		{},
		{"class PA feature { ANY } a1 do end end", "PA rename x1 as y1 ;", "", conflict(api.CnLost, "C", "x1", "PA.x1")},
		{"class PB feature { ANY } b1 do end end", "PB undefine b1 redefine b1 ;", "b1 do end", conflict(api.CnBoth, "C", "b1", "PB.b1")},
		{"class PC feature { ANY } c1 do end c2 do end end", "PC rename c1 as c2 ;", "", conflict(api.CnSame, "C", "c2", "PC.c1 PC.c2")},
		{"class PD feature { ANY } d1 : INTEGER ; end", "PD undefine d1 ;", "", conflict(api.CnUndo, "C", "d1", "PD.d1")},
		{"class PE feature { ANY } e1 do end end", "PE redefine e1 ;", "", conflict(api.CnIdle, "C", "e1", "PE.e1")},
		{"class PF feature { ANY } f1 : INTEGER ; end", "PF redefine f1 ;", "f1 : INTEGER do end", conflict(api.CnFixed, "C", "f1", "PF.f1")},
		{"class PG feature { ANY } g1 do end end", "PG ;", "g1 do end", conflict(api.CnTwo, "C", "g1", "PG.g1")},
		{"class PH feature { ANY } h1 do end end", "PH redefine h1 ;", "h1 deferred end", conflict(api.CnBare, "C", "h1", "PH.h1")},
		{"class PI feature { ANY } i1 do end end", "PI redefine i1 ;", "i1 : INTEGER do end", conflict(api.CnTypes, "C", "i1", ".i1 PI.i1")},
		{"class PJ feature { ANY } j1 do end end class PJA feature { ANY } j1 do end end", "PJ ; PJA ;", "", conflict(api.CnMany, "C", "j1", "PJ.j1 PJA.j1")},
		{"class PK feature { ANY } k1 do end end class PKA inherit PK rename k1 as k2 ; end", "PK ; PKA ;", "", conflict(api.CnSeed, "C", "k1 k2", "PK.k1")},
		{"class PL feature { ANY } l1 do end end", "PL select l1 ;", "", conflict(api.CnSelect, "C", "l1", "PL.l1")},
		{"deferred class PM feature { ANY } m1 deferred end end", "PM ;", "", conflict(api.CnOpen, "C", "m1", "")},
		{"class PN [ G : ANY ] feature { ANY } n1 : G ; end class PNA inherit PN [ INTEGER ] rename n1 as n2 ; end class PNB inherit PN [ BOOLEAN ] ; end", "PNA ; PNB select n1 ;", "", conflict(api.CnApart, "C", "n1 n2", "PN.n1")},
	}
}

// P4.2: the order of the rows within a class, whatever the order of parents and names; and that a conflict that is not the first one is accepted.
func TestOrderOfRows(t *testing.T) {
	all := rowParts()
	for i := 1; i < len(all); i++ {
		for j := 1; j < len(all); j++ {
			one, other := all[i], all[j]
			text := one.classes + " " + other.classes + " class C inherit " + one.parents + other.parents + " feature { ANY } z do end " + one.features + " " + other.features + " end"
			if i == j {
				text = one.classes + " class C inherit " + one.parents + " feature { ANY } z do end " + one.features + " end"
			}
			if max(i, j) != api.CnOpen && min(i, j) != api.CnOpen {
				text = strings.Replace(text, "class C inherit", "deferred class C inherit", 1)
			}
			clashes(t, text, all[min(i, j)].want)
			if err := flat.CheckClash(system(t, text), all[max(i, j)].want); err != api.OK {
				t.Error(text, all[max(i, j)].want, err)
			}
		}
	}
}

// P4.2: the order within rows: by the parents, then by the names of the list, or of the members; in some rows by the names first.
func TestOrderWithinRows(t *testing.T) {
	p, q := "deferred class P feature { ANY } a do end b do end c do end d do end n : INTEGER ; m : INTEGER ; end ", "deferred class Q feature { ANY } a do end b do end c do end d do end end "
	for _, c := range []struct {
		text string // the class C, whose parents are all told
		want api.Conflict
	}{
		// CnLost: parents, then Rename, Undefine, Redefine, Select.
		{"P rename z as u , y as v undefine x redefine w select s ;", conflict(api.CnLost, "C", "z", "P.z")},
		{"P undefine z , x redefine w select s ;", conflict(api.CnLost, "C", "z", "P.z")},
		{"P redefine w , r select s ;", conflict(api.CnLost, "C", "w", "P.w")},
		{"P select s , r ;", conflict(api.CnLost, "C", "s", "P.s")},
		{"P rename a as x undefine x , z redefine a ;", conflict(api.CnLost, "C", "z", "P.z")},
		{"Q select s ; P rename z as u ;", conflict(api.CnLost, "C", "s", "Q.s")},
		// CnBoth: parents, then Undefine.
		{"P undefine b , a redefine a , b ; feature { ANY } a do end b do end", conflict(api.CnBoth, "C", "b", "P.b")},
		{"Q undefine b redefine b ; P undefine a redefine a ;", conflict(api.CnBoth, "C", "b", "Q.b")},
		// CnSame: parents, then names in increasing order, then the first two.
		{"P rename a as z , b as z , c as y , d as y ;", conflict(api.CnSame, "C", "y", "P.c P.d")},
		{"Q rename a as z , b as z ; P rename c as y , d as y ;", conflict(api.CnSame, "C", "z", "Q.a Q.b")},
		{"P rename d as x , c as x , b as x ;", conflict(api.CnSame, "C", "x", "P.b P.c")},
		// CnUndo: parents, then Undefine.
		{"P undefine n , m ;", conflict(api.CnUndo, "C", "n", "P.n")},
		{"P undefine a , m , n ;", conflict(api.CnUndo, "C", "m", "P.m")},
		// CnIdle: parents, then Redefine.
		{"P redefine b , a ;", conflict(api.CnIdle, "C", "b", "P.b")},
		{"Q redefine b ; P redefine a ;", conflict(api.CnIdle, "C", "b", "Q.b")},
		{"Q redefine c , b ; P redefine a ; feature { ANY } c do end", conflict(api.CnIdle, "C", "b", "Q.b")},
		// CnFixed to CnTypes, and CnMany: names in increasing order, then parents.
		{"P ; feature { ANY } n : INTEGER ; m : INTEGER ;", conflict(api.CnFixed, "C", "m", "P.m")},
		{"Q ; P ; feature { ANY } b do end a do end", conflict(api.CnTwo, "C", "a", "Q.a")},
		{"Q redefine a ; P redefine b ; feature { ANY } b do end a do end", conflict(api.CnTwo, "C", "a", "P.a")},
		{"Q redefine a , b ; P redefine b , a ; feature { ANY } b deferred end a deferred end", conflict(api.CnBare, "C", "a", "Q.a")},
		{"Q redefine a , b ; P redefine a , b ; feature { ANY } b : A do end a : A do end", conflict(api.CnTypes, "C", "a", ".a Q.a")},
		{"Q ; P ;", conflict(api.CnMany, "C", "a", "Q.a P.a")},
		{"Q undefine a ; P ;", conflict(api.CnMany, "C", "b", "Q.b P.b")},
		// CnSelect: parents, then Select.
		{"P select b , a ;", conflict(api.CnSelect, "C", "b", "P.b")},
		{"Q rename a as e , b as f , c as g , d as h select f ; P select b , a ;", conflict(api.CnSelect, "C", "f", "Q.f")},
	} {
		clashes(t, p+q+"deferred class C inherit "+c.text+" end", c.want)
	}
	// CnFixed: of several parents.
	fixed := "class P feature { ANY } m : INTEGER ; n : INTEGER ; end class Q inherit P ; end class R feature { ANY } n : INTEGER ; end "
	clashes(t, fixed+"class C inherit R ; Q ; P ; feature { ANY } n : INTEGER ; end", conflict(api.CnFixed, "C", "n", "R.n"))
	clashes(t, fixed+"class C inherit Q ; R ; P ; feature { ANY } n : INTEGER ; m : INTEGER ; end", conflict(api.CnFixed, "C", "m", "Q.m"))
	// CnTypes: one of inherited features ahead of one of a declaration, by their names.
	types := "deferred class P feature { ANY } a deferred end b deferred end end deferred class Q feature { ANY } a : X deferred end b : X deferred end end "
	clashes(t, types+"deferred class C inherit P ; Q ; feature { ANY } b do end end", conflict(api.CnTypes, "C", "a", "P.a Q.a"))
	clashes(t, types+"deferred class C inherit P ; Q ; feature { ANY } a do end end", conflict(api.CnTypes, "C", "a", ".a Q.a"))
	// CnApart: seeds, then names.
	apart := "class P [ G : ANY ] feature { ANY } a : G do end b : G do end end class A inherit P [ X ] rename b as z ; end class B inherit P [ Y ] rename a as y , b as c ; end class C inherit "
	clashes(t, apart+"A select a , z ; B ; end", conflict(api.CnApart, "C", "a y", "P.a"))
	clashes(t, apart+"B select y , c ; A ; end", conflict(api.CnApart, "C", "a y", "P.a"))
}

// P4.2: of several classes the first one in the order of heir.Order has the first conflict, and only classes none of whose proper ancestors has one have conflicts that are accepted.
func TestOrderOfClasses(t *testing.T) {
	bad := " inherit P rename x as y ; end "
	lost := func(class string) api.Conflict { return conflict(api.CnLost, class, "x", "P.x") }
	p := "class P feature { ANY } a do end end "
	clashes(t, p+"class Z"+bad+"class B"+bad+"class Y"+bad, lost("B"))
	clashes(t, p+"class Z"+bad+"class A inherit Z ; P rename x as y ; end class Y"+bad, lost("Y"))
	clashes(t, p+"class A inherit Z ; P rename x as y ; end class Z"+bad, lost("Z"))
	l := system(t, p+"class Z"+bad+"class A inherit Z ; P rename x as y ; end class Y"+bad+"class B inherit P ; end class D inherit A ; P rename x as y ; end")
	for class, want := range map[string]api.Errno{"Z": api.OK, "Y": api.OK, "A": api.ErrProof, "B": api.ErrProof, "D": api.ErrProof, "P": api.ErrProof, "Q": api.ErrProof, "": api.ErrProof} {
		if err := flat.CheckClash(l, lost(class)); err != want {
			t.Error(class, err)
		}
	}
	// What comes from a class that has a conflict is not looked at.
	if err := flat.CheckClash(system(t, p+"class A inherit P rename x as y ; end class B inherit A ; feature { ANY } a do end end"), conflict(api.CnTwo, "B", "a", "A.a")); err != api.ErrProof {
		t.Error(err)
	}
}

// P4.2: both sides may be exchanged in four rows, and in no others; nor may a field have anything else.
func TestCheckClashSides(t *testing.T) {
	all := rowParts()
	for kind := 1; kind < len(all); kind++ {
		text := "class C inherit " + all[kind].parents + " feature { ANY } z do end " + all[kind].features + " end"
		if kind != api.CnOpen {
			text = "deferred " + text
		}
		l := system(t, all[kind].classes+" "+text)
		want := all[kind].want
		sides, origins := want, want
		sides.Name, sides.Other = want.Other, want.Name
		origins.A, origins.B = want.B, want.A
		for _, c := range []struct {
			x    api.Conflict
			isOK bool
		}{
			{want, true},
			{sides, kind == api.CnSeed || kind == api.CnApart},
			{origins, kind == api.CnSame || kind == api.CnMany || kind == api.CnOpen},
		} {
			if err := flat.CheckClash(l, c.x); (err == api.OK) != c.isOK || !c.isOK && err != api.ErrProof {
				t.Errorf("%v: %d", c.x, err)
			}
		}
		for i, change := range []func(*api.Conflict){
			func(x *api.Conflict) { x.Kind = 0 }, func(x *api.Conflict) { x.Kind = 15 }, func(x *api.Conflict) { x.Kind = -1 },
			func(x *api.Conflict) { x.Kind = 1 + x.Kind%14 }, func(x *api.Conflict) { x.Class = "PA" }, func(x *api.Conflict) { x.Class = "" },
			func(x *api.Conflict) { x.Name += "z" }, func(x *api.Conflict) { x.Name = "z" }, func(x *api.Conflict) { x.Other += "z" }, func(x *api.Conflict) { x.Other = x.Name },
			func(x *api.Conflict) { x.A.Parent += "Z" }, func(x *api.Conflict) { x.A.Parent = "C" }, func(x *api.Conflict) { x.A.Name += "z" }, func(x *api.Conflict) { x.A.Name = "z" },
			func(x *api.Conflict) { x.B.Parent += "Z" }, func(x *api.Conflict) { x.B.Name += "z" }, func(x *api.Conflict) { x.B = api.Origin{Name: x.Name} },
		} {
			x := want
			change(&x)
			if err := flat.CheckClash(l, x); err != api.ErrProof {
				t.Errorf("change %d of %v: %v: %d", i, want, x, err)
			}
		}
	}
}

// P4.2: conflicts that are not the first ones of their row: any names, parents and origins that fit.
func TestCheckClashOthers(t *testing.T) {
	accepts := func(text string, want api.Errno, all ...api.Conflict) {
		t.Helper()
		l := system(t, text)
		for _, c := range all {
			if err := flat.CheckClash(l, c); err != want {
				t.Errorf("%s: %v: %d", text, c, err)
			}
		}
	}
	same := "class P feature { ANY } a do end b do end c do end d do end end class C inherit P rename a as d , b as d , c as d ; end"
	accepts(same, api.OK, conflict(api.CnSame, "C", "d", "P.a P.b"), conflict(api.CnSame, "C", "d", "P.c P.d"), conflict(api.CnSame, "C", "d", "P.d P.a"), conflict(api.CnMany, "C", "d", "P.d P.b"))
	accepts(same, api.ErrProof, conflict(api.CnSame, "C", "d", "P.a P.a"), conflict(api.CnSame, "C", "a", "P.a P.b"), conflict(api.CnMany, "C", "d", "P.b P.b"), conflict(api.CnSame, "C", "d", "P.a"))
	many := "class P feature { ANY } a do end end class Q feature { ANY } a do end end class R inherit P ; end class S feature { ANY } a : X do end end class C inherit P ; Q ; R ; S ; end"
	accepts(many, api.OK, conflict(api.CnMany, "C", "a", "P.a Q.a"), conflict(api.CnMany, "C", "a", "R.a Q.a"), conflict(api.CnMany, "C", "a", "Q.a R.a"), conflict(api.CnMany, "C", "a", "S.a R.a"), conflict(api.CnTypes, "C", "a", "P.a S.a"))
	accepts(many, api.ErrProof, conflict(api.CnMany, "C", "a", "P.a R.a"), conflict(api.CnMany, "C", "a", "R.a P.a"),
		// A of CnTypes is the first one that comes under the name.
		conflict(api.CnTypes, "C", "a", "S.a P.a"), conflict(api.CnTypes, "C", "a", "Q.a S.a"), conflict(api.CnTypes, "C", "a", "P.a Q.a"), conflict(api.CnTypes, "C", "a", ".a S.a"))
	own := "class P feature { ANY } a do end end class Q feature { ANY } a ( x : A ) do end end class C inherit P redefine a ; Q redefine a ; feature { ANY } a : A do end end"
	accepts(own, api.OK, conflict(api.CnTypes, "C", "a", ".a P.a"), conflict(api.CnTypes, "C", "a", ".a Q.a"))
	accepts(own, api.ErrProof, conflict(api.CnTypes, "C", "a", "P.a Q.a"), conflict(api.CnTypes, "C", "a", "C.a P.a"), conflict(api.CnTypes, "C", "a", ".a .a"), conflict(api.CnTypes, "C", "a", "P.a .a"))
	seeds := "class P feature { ANY } a do end end class A inherit P rename a as b ; end class B inherit P rename a as c ; end class C inherit P ; A ; B ; end"
	accepts(seeds, api.OK, conflict(api.CnSeed, "C", "a b", "P.a"), conflict(api.CnSeed, "C", "c b", "P.a"), conflict(api.CnSeed, "C", "a c", "P.a"))
	accepts(seeds, api.ErrProof, conflict(api.CnSeed, "C", "a a", "P.a"), conflict(api.CnSeed, "C", "a b", "A.b"), conflict(api.CnSeed, "C", "a d", "P.a"), conflict(api.CnSeed, "C", "a", "P.a"), conflict(api.CnApart, "C", "a b", "P.a"))
	apart := "class P [ G : ANY ] feature { ANY } a : G do end end class A inherit P [ X ] rename a as b ; end class B inherit P [ X ] rename a as c ; end class C inherit P [ Y ] select a ; A ; B ; end"
	accepts(apart, api.OK, conflict(api.CnApart, "C", "a b", "P.a"), conflict(api.CnApart, "C", "a c", "P.a"), conflict(api.CnApart, "C", "c a", "P.a"))
	accepts(apart, api.ErrProof, conflict(api.CnApart, "C", "b c", "P.a"), conflict(api.CnSeed, "C", "a b", "P.a"))
	lost := "class P feature { ANY } a do end n : INTEGER ; end class C inherit P rename x as y , z as y undefine w redefine v , w select u ; end"
	accepts(lost, api.OK, conflict(api.CnLost, "C", "x", "P.x"), conflict(api.CnLost, "C", "z", "P.z"), conflict(api.CnLost, "C", "w", "P.w"), conflict(api.CnLost, "C", "v", "P.v"), conflict(api.CnLost, "C", "u", "P.u"), conflict(api.CnBoth, "C", "w", "P.w"), conflict(api.CnIdle, "C", "v", "P.v"))
	accepts(lost, api.ErrProof, conflict(api.CnLost, "C", "y", "P.y"), conflict(api.CnLost, "C", "a", "P.a"), conflict(api.CnUndo, "C", "w", "P.w"), conflict(api.CnSelect, "C", "u", "P.u"), conflict(api.CnIdle, "C", "u", "P.u"))
	fixed := "class P feature { ANY } n : INTEGER ; a do end end class Q feature { ANY } n : INTEGER ; a do end end class C inherit P ; Q redefine n ; feature { ANY } n : INTEGER deferred end a do end end"
	accepts(fixed, api.OK, conflict(api.CnFixed, "C", "n", "P.n"), conflict(api.CnFixed, "C", "n", "Q.n"), conflict(api.CnTwo, "C", "n", "P.n"), conflict(api.CnTwo, "C", "a", "Q.a"), conflict(api.CnBare, "C", "n", "P.n"), conflict(api.CnBare, "C", "n", "Q.n"), conflict(api.CnOpen, "C", "n", ""))
	accepts(fixed, api.ErrProof, conflict(api.CnFixed, "C", "a", "P.a"), conflict(api.CnTwo, "C", "n", "Q.n"), conflict(api.CnBare, "C", "a", "P.a"), conflict(api.CnOpen, "C", "a", ""))
}

// P4.2, R4: without a conflict there is nothing.
func TestClashOfNothing(t *testing.T) {
	for _, l := range [][]api.Class{nil, {}, {{Name: "A"}}} {
		if c, is, err := flat.Clash(l); c != (api.Conflict{}) || is || err != api.OK {
			t.Error(c, is, err)
		}
		if err := flat.CheckClash(l, api.Conflict{}); err != api.ErrProof {
			t.Error(err)
		}
		if f, err := flat.Flats(l); err != api.OK || len(f) != len(l) {
			t.Error(f, err)
		}
	}
}

// wide returns a type of n parts, and deep one that is nested n deep.
func wide(n int) api.Type {
	return api.Type{Kind: api.TyClass, Name: "X", Args: slices.Repeat([]api.Type{{Kind: api.TyClass, Name: "Y"}}, n-1)}
}

func deep(n int) api.Type {
	t := api.Type{Kind: api.TyClass, Name: "X"}
	for range n - 1 {
		t = api.Type{Kind: api.TyClass, Name: "X", Args: []api.Type{t}}
	}
	return t
}

// withType returns systems in which the class B has a member with a type.
func withType(typed api.Type) [][]api.Class {
	result := api.Feature{Kind: api.FeRoutine, Name: "a", Type: typed}
	arg := api.Feature{Kind: api.FeDeferred, Name: "a", Args: []api.Var{{Name: "x"}, {Name: "y", Type: typed}}}
	attribute := api.Feature{Kind: api.FeAttr, Name: "a", Type: typed}
	g := api.Type{Kind: api.TyFormal, Name: "G"}
	p := api.Class{Name: "P", Formals: formalsOf("G", "ANY"), Deferred: true, Features: []api.Feature{{Kind: api.FeDeferred, Name: "a", Args: []api.Var{{Name: "x", Type: g}}, Type: g}}}
	var out [][]api.Class
	for _, f := range []api.Feature{result, arg, attribute} {
		out = append(out, []api.Class{{Name: "A"}, {Name: "B", Deferred: true, Features: []api.Feature{{Kind: api.FeRoutine, Name: "b"}, f}}, {Name: "C"}})
	}
	return append(out, []api.Class{p, {Name: "B", Deferred: true, Parents: []api.Parent{{Name: "P", Args: []api.Type{typed}}}}})
}

// P4.2, Terms: types of too many parts.
func TestTooLargeTypes(t *testing.T) {
	pairs := api.Type{Kind: api.TyClass, Name: "X", Args: []api.Type{wide(199), wide(200)}}
	for _, right := range []api.Type{wide(2), wide(api.MaxKindParts), deep(api.MaxKindParts), pairs} {
		for _, l := range withType(right) {
			if _, is, err := flat.Clash(l); is || err != api.OK {
				t.Error(countParts(right), is, err)
			}
		}
	}
	for _, wrong := range []api.Type{wide(api.MaxKindParts + 1), deep(api.MaxKindParts + 1), wide(100000), deep(20000), {Kind: api.TyInt, Args: []api.Type{pairs}}, {Kind: api.TyClass, Args: []api.Type{pairs, pairs, pairs}}} {
		for _, l := range withType(wrong) {
			isTooLarge(t, l)
		}
	}
}

// P4.2, R1: the parts of a type that is far too large are not all counted.
func TestFarTooLargeTypes(t *testing.T) {
	doubled := api.Type{Kind: api.TyClass, Name: "X"}
	for range 60 {
		doubled.Args = []api.Type{doubled, doubled}
	}
	for _, l := range withType(doubled) {
		isTooLarge(t, l)
	}
}

// isTooLarge checks that a class of a system is too large.
func isTooLarge(t *testing.T, l []api.Class) {
	t.Helper()
	fail(t, calls(l, "B", "a", seed("B.a"), "B"), api.ErrLimit, names("Clash FlatOf Flats MemberOf Origins Names Selected Version Declared Open Deferred")...)
	fail(t, calls(l, "B", "a", seed("B.a"), "B"), api.ErrProof, names("CheckClash CheckFlats")...)
}

// P4.2: types that grow along ancestors are too large before they are as large as they would get.
func TestTypesThatGrow(t *testing.T) {
	g := api.Type{Kind: api.TyFormal, Name: "G"}
	both := api.Type{Kind: api.TyClass, Name: "X", Args: []api.Type{g, g, g}}
	var l []api.Class
	for i := range api.MaxClasses {
		c := api.Class{Name: string(rune('A' + i)), Formals: formalsOf("G", "ANY")}
		if i == 0 {
			c.Features = []api.Feature{{Kind: api.FeRoutine, Name: "a", Type: g}}
		} else {
			c.Parents = []api.Parent{{Name: l[i-1].Name, Args: []api.Type{both}}}
		}
		l = append(l, c)
		// 1 part in A; each class has three times as many, and one more: 4, 13, 40, 121, 364, 1093.
		if _, is, err := flat.Clash(l); is || (err == api.OK) != (i < 6) || i >= 6 && err != api.ErrLimit {
			t.Fatal(i, is, err)
		}
	}
}

// P4.2, Terms: how many members a class has.
func TestTooManyMembers(t *testing.T) {
	renamed := func(from int) api.Parent {
		p := api.Parent{Name: "Q"}
		for i := from; i < 40; i++ {
			p.Rename = append(p.Rename, api.Pair{From: routines(40)[i].Name, To: "q" + routines(40)[i].Name})
		}
		return p
	}
	more := func(n int) []api.Feature {
		return append(routines(60)[60-n:], api.Feature{Kind: api.FeRoutine, Name: "a"})[:n]
	}
	full := []api.Class{{Name: "B", Features: append(routines(59), api.Feature{Kind: api.FeRoutine, Name: "a"})}}
	l := []api.Class{full[0], {Name: "C", Parents: []api.Parent{{Name: "B"}}}}
	if _, is, err := flat.Clash(l); is || err != api.OK {
		t.Error(is, err)
	}
	l[1].Features = []api.Feature{{Kind: api.FeRoutine, Name: "b"}}
	isTooLarge(t, l)
	two := []api.Class{{Name: "P", Features: routines(40)}, {Name: "Q", Parents: []api.Parent{{Name: "P"}}}, {Name: "B", Parents: []api.Parent{{Name: "P"}, renamed(20)}}}
	for i := 20; i < 40; i++ {
		two[2].Parents[0].Select = append(two[2].Parents[0].Select, routines(40)[i].Name)
	}
	if f, err := flat.FlatOf(two, "B"); err != api.OK || len(f.Members) != 60 {
		t.Error(len(f.Members), err)
	}
	two[2].Features = more(1)
	isTooLarge(t, two)
}

// P4.2: classes that are too large, and conflicts, in the order of classes.
func TestTooLargeAndConflicts(t *testing.T) {
	large := func(name string) api.Class {
		return api.Class{Name: name, Features: []api.Feature{{Kind: api.FeRoutine, Name: "a", Type: wide(401)}}}
	}
	clashing := func(name string) api.Class {
		return api.Class{Name: name, Features: []api.Feature{{Kind: api.FeDeferred, Name: "d"}}}
	}
	both := func(name string) api.Class {
		c := large(name)
		c.Features = append(c.Features, clashing(name).Features...)
		return c
	}
	heir := func(c api.Class, parents ...string) api.Class {
		for _, p := range parents {
			c.Parents = append(c.Parents, api.Parent{Name: p})
		}
		return c
	}
	for i, c := range []struct {
		l     []api.Class
		first string // the class with the first conflict
		err   api.Errno
		all   string // the classes with conflicts that are accepted
	}{
		{[]api.Class{clashing("B"), large("A")}, "", api.ErrLimit, "B"},
		{[]api.Class{large("B"), clashing("A")}, "A", api.OK, "A"},
		{[]api.Class{both("A")}, "A", api.OK, "A"},
		{[]api.Class{both("B"), large("A")}, "", api.ErrLimit, "B"},
		{[]api.Class{large("B"), heir(clashing("A"), "B")}, "", api.ErrLimit, ""},
		{[]api.Class{large("B"), heir(clashing("A"), "B"), clashing("C")}, "", api.ErrLimit, "C"},
		{[]api.Class{clashing("B"), heir(large("A"), "B")}, "B", api.OK, "B"},
		{[]api.Class{{Name: "Z"}, heir(large("B"), "Z"), heir(api.Class{Name: "A"}, "B"), heir(clashing("Y"), "A")}, "", api.ErrLimit, ""},
		{[]api.Class{heir(both("B"), "A"), {Name: "A"}}, "B", api.OK, "B"},
	} {
		x, is, err := flat.Clash(c.l)
		if x.Class != c.first || is != (c.first != "") || err != c.err || x.Kind != 0 && x.Kind != api.CnOpen {
			t.Error(i, x, is, err)
		}
		for _, class := range c.l {
			want := api.ErrProof
			if strings.Contains(c.all, class.Name) {
				want = api.OK
			}
			if err := flat.CheckClash(c.l, conflict(api.CnOpen, class.Name, "d", "")); err != want {
				t.Error(i, class.Name, err)
			}
		}
	}
}
