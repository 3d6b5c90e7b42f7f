package mean_test

import (
	"slices"
	"strings"
	"testing"

	"cosigner/api"
)

// P7.2: variables that have not been set, and what names mean in a body.
func TestVariables(t *testing.T) {
	t.Parallel()
	more := "n: INTEGER; b: BOOLEAN; y: detachable MAIN; z: MAIN; set (i: INTEGER) do n := i; end is: BOOLEAN do end num: INTEGER do end obj: MAIN do end "
	for _, x := range []struct {
		head, stmts string
		fault       int
		out         []int
	}{
		{"local i: INTEGER; c: BOOLEAN; o: MAIN; d: detachable MAIN do", "put i; put c; put o = Void; put d = Void; put n; put b; put y = Void; put z = Void; put num; put is; put obj = Void;", 0, []int{0, 0, 1, 1, 0, 0, 1, 1, 0, 0, 1}},
		{"local o: MAIN do", "o.set (1);", api.FaVoid, nil},
		// a bound name remains until the routine ends
		{"do", "if attached Current as c then c.set (3); end; put c.n;", 0, []int{3}},
		{"do", "if not attached Current as c then end; put c.n;", 0, []int{0}},
		{"do", "put attached Current as c or True; put c.n;", 0, []int{1, 0}},
		{"local k: INTEGER do", "if k = 0 then put attached Current as c; raise 1; end; put c.n; rescue put c.n; k := 1; retry;", 0, []int{1, 0, 0}},
		{"do", "from n := 0; until n = 2 loop n := n + 1; create y.set (n); put attached y as c; end; put c.n;", 0, []int{1, 1, 2}},
		{"do", "check a: attached Current as c; b: c.n = 0; end; put c.n;", 0, []int{0}},
		{"do", "from invariant a: attached Current as c; until c.n = 0 variant c.n loop end; put c.n;", 0, []int{0}},
		{"do", "from until True variant plus (attached Current as c) loop end; put c.n;", 0, []int{0}},
		// attached binds it only if it is True
		{"do", "put attached Current as c; put attached y as c; put c = Current;", 0, []int{1, 0, 1}},
		// the name that was bound last
		{"local c: INTEGER do", "c := 4; put c; put attached Current as c; put c.n;", 0, []int{4, 1, 0}},
		{"do", "put attached Current as n; put n = Current;", 0, []int{1, 1}},
		{"do", "create y.set (1); create z.set (2); put attached y as c; put c.n; put attached z as c; put c.n;", 0, []int{1, 1, 1, 2}},
	} {
		l := system(t, mainWith(x.head+" "+x.stmts, more+"plus (a: BOOLEAN): INTEGER do end "))
		comesTo(t, l, api.OK, x.fault, x.out...)
	}
	for _, stmts := range []string{
		"put attached y as c; put c = Void;", "if attached y as c then end; put c.n;", "f; put c = Void;", "put attached Current as c; c := Current;", "put attached Current as n; n := 1;",
		"put attached Current as c; create c.set (1);", "g (1);",
	} {
		comesTo(t, system(t, body(stmts, more+"f do put attached Current as c; end g (i: INTEGER) do i := 2; end ")), api.ErrType, 0)
	}
	comesTo(t, system(t, body("put w (1);", "w (n: INTEGER): INTEGER do Result := n; end n: INTEGER;")), api.OK, 0, 1) // an argument comes ahead of a feature
	comesTo(t, system(t, mainWith("local n: INTEGER do n := 5; put n; put Current.n;", "n: INTEGER;")), api.OK, 0, 5, 0)
}

// family is classes in which features are renamed, redefined, undefined, selected and put in place of deferred ones.
const family = `
class P create make feature { ANY } n: INTEGER; make do end a do put 1; end call_a do a; end set (i: INTEGER) do n := i; end get: INTEGER do Result := n; end end
class Q inherit P rename a as b redefine b; create make feature { ANY } b do put 2; end end
class R inherit P; create make feature { ANY } use_a do a; end end
class S inherit Q select b; R; create make, a, b feature { ANY } both do a; b; Current.a; end end
class U inherit P rename n as m, a as z, set as put_in; create make feature { ANY }
  n: INTEGER; a do put 7; end own do n := 9; put n; put m; put get; a; z; call_a; end end
deferred class D feature { ANY } f: INTEGER deferred end go do f := 3; put f; end end
class E inherit D; create go feature { ANY } f: INTEGER; end
deferred class X inherit P undefine a; end
class Y inherit X; create make feature { ANY } a do put 8; end end
`

// P7.2: renamed, redefined, selected and undefined features.
func TestVersions(t *testing.T) {
	t.Parallel()
	for _, x := range []struct {
		stmts string
		out   []int
	}{
		{"create p.make; p.set (4); put p.get; put p.n; p.call_a; p.a;", []int{4, 4, 1, 1}},
		{"create q.make; q.b; q.call_a; p := q; p.a; p.call_a;", []int{2, 2, 2, 2}},
		{"create r.make; r.use_a; r.a;", []int{1, 1}},
		{"create s.make; s.both; s.call_a; s.use_a; p := s; p.a; q := s; q.b; r := s; r.a; r.use_a; s.a; s.b;", []int{2, 2, 2, 2, 2, 2, 2, 2, 2, 2, 2}},
		{"create s.a; create s.b;", []int{2, 2}}, // both names mean the version that is selected
		{"create u.make; u.own; p := u; p.set (4); put u.m; put u.n; put p.n; put p.get; p.a; u.a;", []int{9, 0, 0, 7, 1, 1, 4, 9, 4, 4, 1, 7}},
		{"create e.go; put e.f;", []int{3, 3}},
		{"create y.make; y.a; y.call_a; p := y; p.a;", []int{8, 8, 8}},
		{"create x.make;", nil}, // X is deferred
	} {
		l := system(t, family+mainWith("local p: P; q: Q; r: R; s: S; u: U; e: E; x: X; y: Y do "+x.stmts, ""))
		if x.out == nil {
			comesTo(t, l, api.ErrType, 0)
			continue
		}
		comesTo(t, l, api.OK, 0, x.out...)
	}
	for _, stmts := range []string{"p := Current; p.a;", "create r.make; q := r; q.b;", "create p.make; u := p; put u.n;", "create p.make; u := p; u.make;", "create p.make; p.b;", "create u.make; p := u; p.z;"} {
		l := system(t, family+mainWith("local p: P; q: Q; r: R; u: U do "+stmts, "a do end n: INTEGER; "))
		comesTo(t, l, api.ErrType, 0) // the object is of no descendant, or the class of the target has no such name
	}
	for _, make := range []string{"a", "b", "both"} { // the run begins with the version, too
		l := system(t, family)
		if m, err := meant(l, "S", make); err != api.OK || !alike(m, []int{2, 2, 2}[:map[string]int{"a": 1, "b": 1, "both": 3}[make]]) {
			t.Error(make, m, err)
		}
	}
}

// P7.2: if several members have all seeds of one, and the one that is selected for the first seed is none of them, there is no such name.
func TestNoVersion(t *testing.T) {
	t.Parallel()
	l := system(t, `
class A feature { ANY } one do put 1; end end
deferred class B feature { ANY } two deferred end end
class C inherit A rename one as a; B rename two as a; end
class E inherit C rename a as b; end
class D inherit C select a; E; create go feature { ANY } go do a; b; end end
class K inherit D; A rename one as c select c; create go feature { ANY }
  at_a do put 0; a; end at_b do put 0; b; end at_c do put 0; c; end self_a do put 0; Current.a; end make_a local k: K do put 0; create k.a; end make_c local k: K do put 0; create k.c; end
  up local d: D do d := Current; d.a; end end
`)
	for make, want := range map[string]api.Errno{
		"a": api.ErrType, "b": api.ErrType, "c": api.OK, "at_a": api.ErrType, "at_b": api.ErrType, "at_c": api.OK, "self_a": api.ErrType, "make_a": api.ErrType, "make_c": api.OK, "go": api.ErrType, "up": api.ErrType,
	} {
		if _, err := meant(l, "K", make); err != want {
			t.Error(make, err)
		}
	}
	if out, err := meant(l, "D", "go"); err != api.OK || !alike(out, []int{1, 1}) {
		t.Error(out, err)
	}
}

// P7.2: formals, their bounds, and what stands for them, as types of targets.
func TestTargets(t *testing.T) {
	t.Parallel()
	classes := `
class OTHER create start, with feature { ANY } v: INTEGER; start do end with (i: INTEGER) do v := i; end end
class SUB inherit OTHER rename v as w; create with feature { ANY } v: BOOLEAN; end
class CELL [ G: ANY ] create make feature { ANY } item: G; make (x: G) do item := x; end
  wrap: CELL [ CELL [ G ] ] do create Result.make (Current); end
  bad: INTEGER do Result := item.v; end self: CELL [ G ] do Result := Current; end end
class BAG [ G: OTHER ] create make feature { ANY } item: G; make (x: G) do item := x; end
  total: INTEGER do Result := item.v + Current.item.v; if attached item as i then Result := Result + i.v; end; end end
class TWO [ A: ANY, B: ANY ] create make feature { ANY } a: A; b: B; make (x: A; y: B) do a := x; b := y; end swapped: TWO [ B, A ] do create Result.make (b, a); end end
class OTHERS inherit CELL [ OTHER ]; create make end
class PAIR [ H: OTHER ] inherit CELL [ H ]; create make feature { ANY } both: INTEGER do Result := item.v; end end
class ODD [ G: CELL ] create make feature { ANY } item: G; make (x: G) do item := x; end one: OTHER do Result := item.item; end deep: INTEGER do Result := item.item.v; end end
`
	head := "local o: OTHER; s: SUB; c: CELL [ OTHER ]; cc: CELL [ CELL [ OTHER ] ]; b: BAG [ OTHER ]; n: OTHERS; p: PAIR [ OTHER ]; w: TWO [ OTHER, CELL [ OTHER ] ]; d: ODD [ CELL ]; e: CELL [ ANY ]; x: CELL; " +
		"bs: BAG [ SUB ] do create o.with (3); create s.with (5); create c.make (o); "
	for _, x := range []struct {
		stmts string
		err   api.Errno
		fault int
		out   []int
	}{
		{"put c.item.v;", api.OK, 0, []int{3}},
		{"create cc.make (c); put cc.item.item.v;", api.OK, 0, []int{3}},
		{"put c.wrap.item.item.v; put c.self.wrap.item.wrap.item.item.v;", api.OK, 0, []int{3, 3}},
		{"create b.make (o); put b.total; put b.item.v;", api.OK, 0, []int{9, 3}},
		{"create bs.make (s); put bs.total; put bs.item.v; put bs.item.w;", api.OK, 0, []int{15, 0, 5}}, // as OTHER its v is w, as SUB another one
		{"create n.make (o); put n.item.v; c := n; put c.item.v;", api.OK, 0, []int{3, 3}},
		{"create p.make (o); put p.item.v; put p.both;", api.OK, 0, []int{3, 3}},
		{"create w.make (o, c); put w.a.v; put w.b.item.v; put w.swapped.a.item.v; put w.swapped.b.v; put w.swapped.swapped.a.v;", api.OK, 0, []int{3, 3, 3, 3, 3}},
		{"if attached c.item as i then put i.v; end; if attached c.wrap as k then put k.item.item.v; end;", api.OK, 0, []int{3, 3}},
		{"put c.bad;", api.ErrType, 0, nil}, // ANY is no class of the system
		{"create c.make (Void); put c.bad;", api.OK, api.FaVoid, nil},
		{"create e.make (o); put e.item.v;", api.ErrType, 0, nil},
		{"create d.make (c); put d.one = o;", api.OK, 0, []int{1}},
		{"create d.make (c); put d.deep;", api.ErrType, 0, nil}, // the bound has formals, for which nothing stands
		{"x := c; put x.item = o;", api.OK, 0, []int{1}},
		{"x := c; put x.item.v;", api.ErrType, 0, nil},
		{"put w.a.v;", api.OK, api.FaVoid, nil},
		{"o := Current; put o.v;", api.ErrType, 0, nil},
		{"if attached 3 as i then put i; put i.v; end;", api.ErrType, 0, nil},
		{"if attached (c.item) as i then put i.none; end;", api.ErrType, 0, nil},
		{"put c.item.start;", api.ErrType, 0, nil},
	} {
		comesTo(t, system(t, classes+mainWith(head+x.stmts, "v: INTEGER; ")), x.err, x.fault, x.out...)
	}
}

// P7.2: a formal that is none of the target's class stays as it is.
func TestOtherFormals(t *testing.T) {
	t.Parallel()
	text := "class OTHER create start feature { ANY } v: INTEGER; start do v := 3; end end class CELL [ G: ANY ] create make feature { ANY } item: G; other: G; make (x: OTHER) do other := x; end end " +
		"class MAIN [ Z: BOUND ] create make feature { ANY } make local o: OTHER; c: CELL [ OTHER ] do create o.start; create c.make (o); put c.other.v; end end"
	for bound, want := range map[string]api.Errno{"OTHER": api.OK, "ANY": api.ErrType, "MAIN": api.ErrType} {
		l := system(t, strings.ReplaceAll(text, "BOUND", bound))
		featureOf(t, l, "CELL", "other").Type.Name = "Z"
		var out []int
		if want == api.OK {
			out = []int{3}
		}
		comesTo(t, l, want, 0, out...)
		l[2].Formals[0].Name = "Y"
		comesTo(t, l, api.ErrType, 0)
	}
}

// P7.2: a type whose formals stand for ever more types need not be put together.
func TestLongTypes(t *testing.T) {
	t.Parallel()
	classes := "class TWIN [ A: ANY, B: ANY ] create make feature { ANY } make do d := Current; a := Current; end d: TWIN [ TWIN [ A, B ], TWIN [ A, B ] ]; a: A; v: INTEGER; end "
	l := system(t, classes+mainWith("local x: TWIN [ MAIN, MAIN ] do create x.make; put x.d.v; put x.v; put x.a.v;", "v: INTEGER;"))
	comesTo(t, l, api.ErrType, 0) // x.a is of no descendant of MAIN
	make := featureOf(t, l, "MAIN", "make")
	make.Body = make.Body[:2]
	chain := func(names ...string) api.Expr {
		e := variable("x")
		for _, name := range names {
			e = api.Expr{Kind: api.ExCall, N: 1, Name: name, Kids: []api.Expr{e}}
		}
		return e
	}
	long := slices.Concat(slices.Repeat([]string{"d"}, 300), slices.Repeat([]string{"a"}, 300), slices.Repeat([]string{"d", "d", "a"}, 300))
	long = append(long, slices.Repeat([]string{"a"}, 300)...)
	make.Body[1].Exprs[0] = chain(append(long, "v")...)
	comesTo(t, l, api.OK, 0, 0)
	make.Body[1].Exprs[0] = chain(append(long, "a", "v")...)
	comesTo(t, l, api.ErrType, 0)
}

// P7.2: in clauses the words are those of their class: names, and the types of arguments and Result.
func TestWordsOfClauses(t *testing.T) {
	t.Parallel()
	classes := `
class OTHER create with feature { ANY } v: INTEGER; with (i: INTEGER) do v := i; end end
class SUB inherit OTHER rename v as w; create with end
deferred class BASE [ G: OTHER ] feature { ANY } x: INTEGER; low: INTEGER; e (a: KID): KID do end
  f (a: G): G deferred require pos: a.v > 0; ensure same: Result.v = a.v; more: x = old x + 1; higher: low < Result.v; end
  g (a: G): INTEGER do Result := a.v; end
invariant small: x < 3; end
class KID inherit BASE [ SUB ] rename x as y, low as min; create make feature { ANY }
  make do end
  f (a: SUB): SUB require big: a.w > 5; local x: BOOLEAN; low: SUB do x := True; low := a; y := y + 1; Result := a; if a.w = 2 then create Result.with (1); end; end
  x: INTEGER;
invariant own: y >= x; end
`
	for _, x := range []struct {
		stmts string
		fault int
		out   []int
	}{
		{"create s.with (1); put k.f (s) = s; put k.y;", 0, []int{1, 1}},
		{"create s.with (0); put k.f (s) = s;", api.FaPre, nil},
		{"create s.with (2); put k.f (s) = s;", api.FaPost, nil},
		{"create s.with (4); put k.g (s); b := k; put b.g (s); put b.f (s) = s;", 0, []int{4, 4, 1}},
		{"create s.with (1); put k.f (s) = s; put k.f (s) = s; put k.f (s) = s;", api.FaInv, []int{1, 1}},
	} {
		l := system(t, classes+mainWith("local s: SUB; k: KID; b: BASE [ OTHER ] do create k.make; "+x.stmts, ""))
		// KID's f has a local with the name of a feature of BASE that has another name in KID
		kid := featureOf(t, l, "KID", "f")
		kid.Locals[0].Name = "x_here"
		kid.Body[0].Name = "x_here"
		comesTo(t, l, api.OK, x.fault, x.out...)
	}
	// what old was is no target of its own
	for stmts, want := range map[string]api.Errno{"o := Current;": api.ErrType, "": api.OK} {
		l := system(t, body(stmts+" f;", "o: detachable MAIN; n: INTEGER; f do ensure a: (old o).n = 0; end "))
		comesTo(t, l, want, map[api.Errno]int{api.OK: api.FaVoid}[want])
	}
}
