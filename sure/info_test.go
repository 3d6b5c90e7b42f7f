package sure_test

import (
	"slices"
	"strings"
	"testing"

	"cosigner/api"
	"cosigner/kind"
	"cosigner/sure"
)

// The chapter's examples.
func TestExamples(t *testing.T) {
	for _, c := range []struct {
		from, to string
		want     api.Fault
	}{
		{"", "", api.Fault{}},
		{"first := b;", "", api.Fault{Feature: "make", Create: true, At: 2, Err: api.ErrVoid}},
		{"first.put_in", "first.put_it", api.Fault{Feature: "make", At: 3, Err: api.ErrName}},
		{"first := b;", "first := b.next;", api.Fault{Feature: "make", At: 0, Err: api.ErrType}},
		{"first := b;", "if attached b.next as n then first := n; else first := b; end;", api.Fault{}},
		{"both:", "extra local x: BOX do x.put_in (1); end both:", api.Fault{Feature: "extra", At: 2, Err: api.ErrVoid}},
		{"both:", "extra (b: BOX) require full: b.count > 0; do end both:", api.Fault{}},
		{"both:", "extra require full: both > 0; do end both:", api.Fault{Feature: "extra", At: 1, Err: api.ErrForm}},
	} {
		l := system(t, strings.Replace(example, c.from, c.to, 1))
		var want []api.Fault
		if c.want.Err != api.OK {
			c.want.Class = "PAIR"
			want = []api.Fault{c.want}
		}
		if got := faultsOf(t, l); !alike(got, want) {
			t.Errorf("%s: %v, want %v", c.to, got, want)
		}
		checks(t, l, c.want.Err)
		_, err := sure.Nodes(l, "PAIR", "make")
		if want := c.want.Err; c.want.Feature != "make" || c.want.Create {
			want = api.OK
			if err != want {
				t.Error(c.to, err)
			}
		} else if err != want {
			t.Error(c.to, err)
		}
	}
}

// P6.4: the nodes of a feature in order, and their types.
func TestNodesAndTypes(t *testing.T) {
	feature := "f (p: BOX; q: detachable BOX; r: separate BOX): INTEGER require a: n = 1 and t; local x: BOX; m: LIST [G] do " +
		"x := p.twin; create m.make (g); create x.fill (n + 2); work; p.add (3, x); " +
		"if attached q as v and attached v.next as w then put w.count; else put - 4; end; " +
		"from put 5; invariant a: not True; until l.item = Void variant 6 loop put 7; end; " +
		"check b: any /= r; end; separate r as u when u.full do put u.next = u.far; any := Current; yy := m.last; zz := m.all; end; raise 9; Result := 8; " +
		"ensure c: Result = old n; rescue put 10; retry; end yy: detachable G; zz: LIST [G];"
	l := system(t, strings.Replace(base, "%", feature, 1))
	want := []string{
		"n = 1 and t: BOOLEAN", "n = 1: BOOLEAN", "n: INTEGER", "1: INTEGER", "t: BOOLEAN",
		"x := p.twin;", "p.twin: BOX", "p: BOX",
		"create m.make (g);", "make (g): Void", "g: G",
		"create x.fill (n + 2);", "fill (n + 2): Void", "n + 2: INTEGER", "n: INTEGER", "2: INTEGER",
		"work;", "work: Void",
		"p.add (3, x);", "p.add (3, x): Void", "p: BOX", "3: INTEGER", "x: BOX",
		"if attached q as v and attached v.next as w then put w.count; else put - 4; end;",
		"attached q as v and attached v.next as w: BOOLEAN", "attached q as v: BOOLEAN", "q: detachable BOX", "attached v.next as w: BOOLEAN", "v.next: detachable BOX", "v: BOX",
		"put w.count;", "w.count: INTEGER", "w: BOX", "put - 4;", "- 4: INTEGER", "4: INTEGER",
		"from put 5; invariant a: not True; until l.item = Void variant 6 loop put 7; end;",
		"put 5;", "5: INTEGER", "not True: BOOLEAN", "True: BOOLEAN", "l.item = Void: BOOLEAN", "l.item: BOX", "l: LIST [BOX]", "Void: Void", "6: INTEGER", "put 7;", "7: INTEGER",
		"check b: any /= r; end;", "any /= r: BOOLEAN", "any: ANY", "r: separate BOX",
		"separate r as u when u.full do put u.next = u.far; any := Current; yy := m.last; zz := m.all; end;",
		"r: separate BOX", "u.full: BOOLEAN", "u: separate BOX", "put u.next = u.far;", "u.next = u.far: BOOLEAN", "u.next: detachable separate BOX", "u: separate BOX", "u.far: separate BOX", "u: separate BOX",
		"any := Current;", "Current: MAIN [G, H]", "yy := m.last;", "m.last: detachable G", "m: LIST [G]", "zz := m.all;", "m.all: LIST [G]", "m: LIST [G]",
		"raise 9;", "Result := 8;", "8: INTEGER",
		"Result = old n: BOOLEAN", "Result: INTEGER", "old n: INTEGER", "n: INTEGER",
		"put 10;", "10: INTEGER", "retry;",
	}
	checks(t, l, api.OK)
	if n, err := sure.Nodes(l, "MAIN", "f"); err != api.OK || n != len(want) {
		t.Errorf("%d nodes (%d), want %d", n, err, len(want))
	}
	for at, text := range want {
		text, name, isExpr := strings.Cut(text, ": ")
		if strings.HasSuffix(want[at], ";") {
			isExpr = false
		}
		got, err := sure.TypeOf(l, "MAIN", "f", at)
		switch {
		case !isExpr && (err != api.ErrNone || !isZero(got)):
			t.Errorf("%d %s: %v (%d)", at, text, got, err)
		case isExpr && (err != api.OK || !kind.Same(got, typed(t, name, "G", "H"))):
			t.Errorf("%d %s: %v (%d), want %s", at, text, got, err, name)
		}
	}
	for _, at := range []int{-1, -100, len(want), len(want) + 1, 1 << 40} {
		if got, err := sure.TypeOf(l, "MAIN", "f", at); err != api.ErrNone || !isZero(got) {
			t.Error(at, got, err)
		}
		if got, err := sure.Set(l, "MAIN", "f", at); err != api.ErrNone || got != nil {
			t.Error(at, got, err)
		}
	}
	for _, name := range []string{"n", "work"} {
		if n, err := sure.Nodes(l, "MAIN", name); err != api.OK || n != 0 {
			t.Error(name, n, err)
		}
	}
}

// seeds returns the classes and names of a text, each with a dot.
func seeds(text string) []api.Seed {
	var out []api.Seed
	for _, word := range strings.Fields(text) {
		class, name, _ := strings.Cut(word, ".")
		out = append(out, api.Seed{Class: class, Name: name})
	}
	return out
}

// P6.6: what a feature refers to, in the order of the nodes.
func TestUses(t *testing.T) {
	for feature, want := range map[string]string{
		"f do end":                                                                        "",
		"f do work; calm; work; n := zero; end":                                           "MAIN.work MAIN.calm MAIN.zero",
		"f do b.add (n, made); end":                                                       "BOX.add MAIN.b MAIN.n MAIN.made",
		"f (x: H) do n := x.count + b.count; end":                                         "BOX.count MAIN.b",
		"f (x: TIN) do n := x.count + b.count; end":                                       "TIN.count BOX.count MAIN.b",
		"f do put give (n, b.twin); end":                                                  "MAIN.give MAIN.n BOX.twin MAIN.b",
		"f do create b.fill (n); end":                                                     "BOX.fill MAIN.n",
		"f local x: TIN do create x.start; create b.start; end":                           "TIN.start BOX.start",
		"f do b := made; end":                                                             "MAIN.made",
		"f require a: t; do d := Void; ensure b: b.full; rescue put n; end":               "MAIN.t BOX.full MAIN.b MAIN.n",
		"f do separate s as v do put v.full; end; end":                                    "MAIN.s BOX.full",
		"f do n := Current.n; work; Current.work; end":                                    "MAIN.n MAIN.work",
		"f do from n := zero; invariant a: t; until b.full variant n loop work; end; end": "MAIN.zero MAIN.t BOX.full MAIN.b MAIN.n MAIN.work",
		"f (x: LIST [LIST [G]]) do put attached x.item.rest as v; end":                    "LIST.rest LIST.item",
		"f: INTEGER;": "",
	} {
		l := system(t, strings.Replace(base, "%", feature, 1))
		if got, err := sure.Uses(l, "MAIN", "f"); err != api.OK || !slices.Equal(got, seeds(want)) {
			t.Errorf("%s: %v (%d), want %s", feature, got, err, want)
		}
	}
}

// P6.7: Names.
func TestNames(t *testing.T) {
	feature := "f (p: BOX; q: detachable LIST [G]) require a: attached d as v1; local x: G; y: INTEGER do " +
		"if attached q as v2 and attached v2.rest as v3 then end; separate s as v4 when attached d as v5 do put attached (s) as v6; end; " +
		"ensure a: attached e as v7; rescue put attached Current as v8; end"
	l := system(t, strings.Replace(base, "%", feature, 1))
	var got []string
	vars, err := sure.Names(l, "MAIN", "f")
	want := "p BOX, q detachable LIST [G], x G, y INTEGER, v1 BOX, v2 LIST [G], v3 LIST [G], v4 separate BOX, v5 BOX, v6 separate BOX, v7 G, v8 MAIN [G, H]"
	for _, v := range vars {
		got = append(got, v.Name)
	}
	if err != api.OK || !slices.Equal(got, strings.Fields("p q x y v1 v2 v3 v4 v5 v6 v7 v8")) {
		t.Error(got, err)
	}
	for i, text := range strings.Split(strings.ReplaceAll(want, "G, H", "G;H"), ", ") {
		name, text, _ := strings.Cut(text, " ")
		if vars[i].Name != name || !kind.Same(vars[i].Type, typed(t, strings.ReplaceAll(text, ";", ","), "G", "H")) {
			t.Error(i, vars[i], text)
		}
	}
	// Bound names stand by their nodes, also if an inner one is bound ahead of an outer one.
	l = system(t, strings.Replace(base, "%", "g1 (x: BOOLEAN): separate BOX do Result := s; end f do separate g1 (attached d as v1) as v2 do put attached g1 (attached b as v3) as v4; end; end", 1))
	vars, err = sure.Names(l, "MAIN", "f")
	got = nil
	for _, v := range vars {
		got = append(got, v.Name)
	}
	if err != api.OK || !slices.Equal(got, []string{"v2", "v1", "v4", "v3"}) {
		t.Error(got, err)
	}
	for _, name := range []string{"n", "work"} {
		if got, err := sure.Names(l, "MAIN", name); err != api.OK || len(got) != 0 {
			t.Error(name, got, err)
		}
	}
}

// P6.7, P6.12: Visible.
func TestVisible(t *testing.T) {
	l := system(t, `
class A feature { ANY } all: INTEGER; feature { NONE } none: INTEGER; feature { B } b: INTEGER; feature { C, NONE, D } two: INTEGER; feature { A } own: INTEGER; feature { X, NONSENSE } no: INTEGER; end
class B end class C inherit B; end class D inherit C; end class E inherit A rename own as mine; end
class X [G: ANY] end`)
	for feature, want := range map[string]string{"all": "A B C D E X", "none": "", "b": "B C D", "two": "C D", "own": "A E", "no": "X"} {
		for _, c := range l {
			is, err := sure.Visible(l, c.Name, "A", feature)
			if err != api.OK || is != isIn(c.Name, want) {
				t.Error(feature, c.Name, is, err)
			}
		}
	}
	if is, err := sure.Visible(l, "E", "E", "mine"); err != api.OK || !is {
		t.Error(is, err)
	}
	if is, err := sure.Visible(l, "B", "E", "mine"); err != api.OK || is {
		t.Error(is, err)
	}
	if is, err := sure.Visible(l, "A", "E", "own"); err != api.ErrNone || is {
		t.Error(is, err)
	}
	l[0].Features[1].Clients = nil
	if is, err := sure.Visible(l, "A", "A", "none"); err != api.OK || is {
		t.Error(is, err)
	}
}
