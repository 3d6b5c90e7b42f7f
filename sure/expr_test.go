package sure_test

import (
	"strings"
	"testing"

	"cosigner/api"
)

// P6.2: numbers, truths, Void, Current and Result.
func TestLiterals(t *testing.T) {
	checkRules(t, bodies(met("j := 0; j := 1099511627776; k := True; y := Void; any := Current; put - 1099511627776;")...))
	checkRules(t, []rule{
		{"f: INTEGER do Result := 1; put Result; end", api.OK, ""},
		{"f: INTEGER do put Result; end", api.OK, ""},
		{"f: detachable BOX local y: detachable BOX do y := Result; end", api.OK, ""},
		{"f do put Result; end", api.ErrName, "Result"},
		{"f: BOX do d := Result; Result := b; end", api.ErrVoid, "Result"},
		{"f: G do e := Result; Result := g; end", api.ErrVoid, "Result"},
		{"f: BOX do Result := b; d := Result; ensure a: Result.full; end", api.OK, ""},
		{"f: INTEGER do ensure a: Result = 1; end", api.OK, ""},
		{"f do ensure a: Result = 1; end", api.ErrName, "Result"},
		{"f: INTEGER require a: Result = 1; do end", api.ErrName, "Result"},
		{"f: INTEGER do ensure a: old Result = 1; end", api.ErrName, "Result"},
		{"f: INTEGER do ensure a: 1 = old (1 + Result); end", api.ErrName, "Result"},
		{"f: INTEGER do check a: Result = 1; end; end", api.OK, ""},
		{"f: INTEGER do rescue put Result; end", api.OK, ""},
		{"f: BOX do Result := b; rescue d := Result; end", api.ErrVoid, "Result"},
		{"f: BOX do Result := b; rescue Result := b; d := Result; end", api.OK, ""},
		{"f: BOX do Result := b; ensure a: Result.count = old b.count and Result /= old b; end", api.OK, ""},
	})
}

// P6.2: operators.
func TestOperators(t *testing.T) {
	for _, op := range strings.Fields("+ - * // %") {
		checkRules(t, bodies(
			rule{"j := i " + op + " 2;", api.OK, ""},
			rule{"put True " + op + " 2;", api.ErrType, "True " + op + " 2"},
			rule{"put 2 " + op + " q;", api.ErrType, "2 " + op + " q"},
			rule{"put 1 + (2 " + op + " k);", api.ErrType, "2 " + op + " k"},
			rule{"k := 1 " + op + " 2;", api.ErrType, "k := 1 " + op + " 2;"},
		))
	}
	for _, op := range strings.Fields("< <= > >=") {
		checkRules(t, bodies(
			rule{"k := i " + op + " 2;", api.OK, ""},
			rule{"put True " + op + " 2;", api.ErrType, "True " + op + " 2"},
			rule{"put 2 " + op + " True;", api.ErrType, "2 " + op + " True"},
			rule{"put True " + op + " True;", api.ErrType, "True " + op + " True"},
			rule{"j := 1 " + op + " 2;", api.ErrType, "j := 1 " + op + " 2;"},
		))
	}
	for _, op := range strings.Fields("and or implies") {
		checkRules(t, bodies(
			rule{"k := t " + op + " k;", api.OK, ""},
			rule{"put 1 " + op + " True;", api.ErrType, "1 " + op + " True"},
			rule{"put True " + op + " p;", api.ErrType, "True " + op + " p"},
			rule{"put 1 " + op + " 1;", api.ErrType, "1 " + op + " 1"},
			rule{"j := True " + op + " k;", api.ErrType, "j := True " + op + " k;"},
		))
	}
	checkRules(t, bodies(
		rule{"k := not t; j := - j; put - - 1; put not not k;", api.OK, ""},
		rule{"put not 1;", api.ErrType, "not 1"},
		rule{"put - k;", api.ErrType, "- k"},
		rule{"put not q;", api.ErrType, "not q"},
		rule{"j := not k;", api.ErrType, "j := not k;"},
		rule{"k := - 1;", api.ErrType, "k := - 1;"},
		rule{"put - (not 1);", api.ErrType, "not 1"},
	))
}

// P6.2: = and /=.
func TestEquality(t *testing.T) {
	for _, op := range []string{" = ", " /= "} {
		for _, sides := range []string{"1,2", "k,True", "Void,Void", "p,q", "q,Void", "Void,r", "r,q", "Current,any", "p,any", "any,r", "h,p", "h,r", "g,e", "Void,e", "g,any", "b,d", "s,b", "l,l.rest", "shape,any"} {
			a, b, _ := strings.Cut(sides, ",")
			checkRules(t, bodies(rule{"k := " + a + op + b + ";", api.OK, ""}, rule{"k := " + b + op + a + ";", api.OK, ""}))
		}
		for _, sides := range []string{"1,True", "1,Void", "k,Void", "1,p", "True,any", "p,l", "g,h", "g,b", "e,p", "l,Current", "shape,b", "j,e"} {
			a, b, _ := strings.Cut(sides, ",")
			checkRules(t, bodies(rule{"k := " + a + op + b + ";", api.ErrType, a + op + b}, rule{"k := " + b + op + a + ";", api.ErrType, b + op + a}))
		}
	}
	// Actual types count, whatever else is made alike.
	checkRules(t, []rule{
		{"f (a: LIST [BOX]; c: separate LIST [BOX]) do put a = c; put c = a.rest; end", api.OK, ""},
		{"f (a: LIST [BOX]; c: LIST [SHAPE]) do put a = c; end", api.ErrType, "a = c"},
		{"f (a: LIST [BOX]; c: LIST [TIN]) do put a = c; end", api.ErrType, "a = c"},
		{"f (a: TIN; c: BOX) do put a = c; put c /= a; end", api.OK, ""},
		{"f (a: LIST [G]; c: LIST [H]) do put a = c; end", api.ErrType, "a = c"},
	})
}

// P6.2: old.
func TestOld(t *testing.T) {
	checkRules(t, []rule{
		{"f require a: old n = 1; do end", api.ErrForm, "old n"},
		{"f do put old n; end", api.ErrForm, "old n"},
		{"f do ensure a: old (old n) = 1; end", api.ErrForm, "old n"},
		{"f do ensure a: old (n + old n) = 1; end", api.ErrForm, "old n"},
		{"f do ensure a: old n = old n; a: old n = 1; c: old t; c: d = old d; end", api.OK, ""},
		{"f do rescue put old n; end", api.ErrForm, "old n"},
		{"f do check a: old t; end; end", api.ErrForm, "old t"},
		{"f do put old none; end", api.ErrName, "none"},
		{"f do put old (old n); end", api.ErrForm, "old n"},
		{"f do ensure a: old n; end", api.ErrType, "old n"},
	})
}

// P6.2: attached, and where its name is known.
func TestAttached(t *testing.T) {
	checkRules(t, bodies(met(
		"k := attached q as v;",
		"if attached q as v then y := v; end;",
		"if attached q as v and v.full then y := v; j := v.count; end;",
		"if attached q as v and attached v.next as w and w.full then y := w; x := v; end;",
		"k := attached q as v implies v.full;",
		"k := attached q as v and attached v.next as w implies w.full and v.full;",
		"k := attached p as v; k := attached e as w; k := attached Current as u; k := attached g as gg;",
		"if attached r as v then separate v as w do j := w.count; end; end;",
		"if attached d as v then x := v; else x := b; end;",
		"k := (attached q as v and (attached v.next as w implies w.full)) and v.full;",
	)...))
	checkRules(t, bodies(
		rule{"if attached q as v then end; y := v;", api.ErrName, "v"},
		rule{"if attached q as v then else y := v; end;", api.ErrName, "v"},
		rule{"if attached q as v or v.full then end;", api.ErrName, "v"},
		rule{"if v.full and attached q as v then end;", api.ErrName, "v"},
		rule{"if attached q as v or t then y := v; end;", api.ErrName, "v"},
		rule{"if not attached q as v then else y := v; end;", api.ErrName, "v"},
		rule{"if attached q as v implies t then y := v; end;", api.ErrName, "v"},
		rule{"if t implies attached q as v then y := v; end;", api.ErrName, "v"},
		rule{"k := (attached q as v implies t) and v.full;", api.ErrName, "v"},
		rule{"k := (attached q as v implies t) implies v.full;", api.ErrName, "v"},
		rule{"k := (attached q as v and t) = v.full;", api.ErrName, "v"},
		rule{"k := attached q as v; y := v;", api.ErrName, "v"},
		rule{"k := attached q as v; k := attached q as v;", api.ErrTwice, "attached q as v #2"},
		rule{"if attached q as v then k := attached v as v; end;", api.ErrTwice, "attached v as v"},
		rule{"k := attached q as p;", api.ErrTwice, "attached q as p"},
		rule{"k := attached q as y;", api.ErrTwice, "attached q as y"},
		rule{"k := attached q as d;", api.ErrTwice, "attached q as d"},
		rule{"k := attached q as f;", api.ErrTwice, "attached q as f"},
		rule{"k := attached q as zero;", api.ErrTwice, "attached q as zero"},
		rule{"k := attached 1 as v;", api.ErrType, "attached 1 as v"},
		rule{"k := attached k as v;", api.ErrType, "attached k as v"},
		rule{"k := attached Void as v;", api.ErrType, "attached Void as v"},
		rule{"k := attached none as p;", api.ErrName, "none"},
		rule{"k := attached 1 as p;", api.ErrTwice, "attached 1 as p"},
		rule{"separate r as v do k := attached q as v; end;", api.ErrTwice, "attached q as v"},
		rule{"j := attached q as v;", api.ErrType, "j := attached q as v;"},
	))
	// In assertions, and from one part of a feature to the other ones.
	checkRules(t, []rule{
		{"f (q: detachable BOX) require a: attached q as v implies v.full; c: attached q as w and w.full; do ensure c: attached q as u implies u.full; end", api.OK, ""},
		{"f (q: detachable BOX) require a: attached q as v; c: v.full; do end", api.ErrName, "v"},
		{"f (q: detachable BOX) require a: attached q as v; do put attached q as v; end", api.ErrTwice, "attached q as v #2"},
		{"f (q: detachable BOX) require a: attached q as v; do d := v; end", api.ErrName, "v"},
		{"f (q: detachable BOX) do put attached q as v; ensure a: attached q as v; end", api.ErrTwice, "attached q as v #2"},
		{"f (q: detachable BOX) do ensure a: attached q as v; rescue put attached q as v; end", api.ErrTwice, "attached q as v #2"},
	})
}

// P6.2: calls without a target, and variables.
func TestPlainCalls(t *testing.T) {
	checkRules(t, bodies(met("j := n + i; work; j := give (1, q); j := give (n, Void); y := p; y := made; f (p, q, r, i); calm; j := zero;")...))
	checkRules(t, bodies(
		rule{"j := none;", api.ErrName, "none"},
		rule{"none;", api.ErrName, "none"},
		rule{"none (k, 1);", api.ErrName, "none (k, 1)"},
		rule{"none (nope);", api.ErrName, "nope"},
		rule{"j := i (1);", api.ErrForm, "i (1)"},
		rule{"j := j (none);", api.ErrName, "none"},
		rule{"j := n (1);", api.ErrArg, "n (1)"},
		rule{"y := x;", api.ErrVoid, "x"},
		rule{"y := x (1);", api.ErrForm, "x (1)"},
		rule{"y := y; y := z;", api.ErrVoid, "z"},
		rule{"work (1);", api.ErrArg, "work (1)"},
		rule{"j := give (1);", api.ErrArg, "give (1)"},
		rule{"j := give;", api.ErrArg, "give"},
		rule{"j := give (1, q, 1);", api.ErrArg, "give (1, q, 1)"},
		rule{"j := give (k, q);", api.ErrType, "give (k, q)"},
		rule{"j := give (1, l);", api.ErrType, "give (1, l)"},
		rule{"j := give (1, r);", api.ErrType, "give (1, r)"},
		rule{"j := give (k, none);", api.ErrName, "none"},
		rule{"j := work;", api.ErrType, "work"},
		rule{"put calm;", api.ErrType, "calm"},
		rule{"k := attached work as v;", api.ErrType, "work"},
		rule{"j := give (1, work);", api.ErrType, "work"},
		rule{"give (1, q);", api.ErrType, "give (1, q);"},
		rule{"n;", api.ErrType, "n;"},
		rule{"p;", api.ErrType, "p;"},
		rule{"x;", api.ErrVoid, "x"},
	))
}

// P6.2: which names clauses may have.
func TestClauseNames(t *testing.T) {
	checkRules(t, met("f (p: BOX) require a: p.full and t; do ensure a: p.full and t; end"))
	l := system(t, strings.Replace(base, "%", "f (p: BOX) local j: INTEGER; x: BOX do x := b; end", 1))
	f := featureOf(t, l, "MAIN", "f")
	j := api.Expr{Kind: api.ExBin, Name: "=", Kids: []api.Expr{{Kind: api.ExCall, Name: "j"}, {Kind: api.ExInt}}}
	f.Require = []api.Clause{{Tag: "a", Expr: j}}
	checkRule(t, l, rule{"", api.ErrName, "j"})
	f.Require, f.Ensure = nil, []api.Clause{{Tag: "a", Expr: j}}
	checkRule(t, l, rule{"", api.ErrName, "j"})
	// A local is no argument, even if it is set, or not set.
	f.Ensure[0].Expr = api.Expr{Kind: api.ExAttached, Name: "v", Kids: []api.Expr{{Kind: api.ExCall, Name: "x"}}}
	checkRule(t, l, rule{"", api.ErrName, "x"})
	f.Ensure, f.Body, f.Rescues = nil, []api.Stmt{{Kind: api.StCheck, Tags: []api.Clause{{Tag: "a", Expr: j}}}}, true
	f.Rescue = []api.Stmt{{Kind: api.StCheck, Tags: []api.Clause{{Tag: "a", Expr: j}}}}
	checkRule(t, l, rule{"", api.OK, ""})
	// Calls of routines are not for clauses.
	checkRules(t, []rule{
		{"f require a: give (1, d) = 1; do end", api.ErrForm, "give (1, d)"},
		{"f require a: made = b; do end", api.ErrForm, "made"},
		{"f require a: work; do end", api.ErrForm, "work"},
		{"f do ensure a: made = b; end", api.ErrForm, "made"},
		{"f do ensure a: old made = b; end", api.ErrForm, "made"},
		{"f do check a: made = b; end; end", api.ErrForm, "made"},
		{"f do check a: b.twin = b; end; end", api.ErrForm, "b.twin"},
		{"f do check a: b.twin (1) = b; end; end", api.ErrForm, "b.twin (1)"},
		{"f do from invariant a: made = b; until t loop end; end", api.ErrForm, "made"},
		{"f do from until made = b variant give (1, d) loop end; end", api.OK, ""},
		{"f do rescue check a: made = b; end; end", api.ErrForm, "made"},
		{"f do check a: t; end; d := made; end", api.OK, ""},
		{"f do from invariant a: t; until t loop d := made; end; end", api.OK, ""},
		{"f do check a: b.next = d; a: b.count = n; end; end", api.OK, ""},
	})
}

// P6.2: calls with a target.
func TestTargets(t *testing.T) {
	checkRules(t, bodies(met(
		"j := p.count; p.add (1, p); y := p.next; j := p.twin.twin.count; j := p.size (i + 1);",
		"p.pass (r, Void); p.pass (p, q); p.pass (r, r); l.change (p); y := l.item; y := l.last; l.all.all.change (l.item);",
		"j := h.count; h.add (1, p); y := h.twin; j := Current.n; Current.work; j := Current.b.count;",
		"any := Current.g; j := zero; Current.calm; j := p.known;",
	)...))
	checkRules(t, bodies(
		rule{"j := i.count;", api.ErrType, "i.count"},
		rule{"j := (1 + 2).count;", api.ErrType, "(1 + 2).count"},
		rule{"j := True.count;", api.ErrType, "True.count"},
		rule{"j := Void.count;", api.ErrType, "Void.count"},
		rule{"j := q.count;", api.ErrVoid, "q.count"},
		rule{"j := q.none (k, 1);", api.ErrVoid, "q.none (k, 1)"},
		rule{"j := e.count;", api.ErrVoid, "e.count"},
		rule{"j := p.next.count;", api.ErrVoid, "p.next.count"},
		rule{"j := x.count;", api.ErrVoid, "x"},
		rule{"j := q.size (none);", api.ErrName, "none"},
		rule{"j := p.none;", api.ErrName, "p.none"},
		rule{"j := g.count;", api.ErrName, "g.count"},
		rule{"j := any.count;", api.ErrName, "any.count"},
		rule{"j := h.item;", api.ErrName, "h.item"},
		rule{"j := p.hidden;", api.ErrClash, "p.hidden"},
		rule{"j := p.near;", api.ErrClash, "p.near"},
		rule{"j := p.hidden (1, 2);", api.ErrClash, "p.hidden (1, 2)"},
		rule{"j := h.hidden;", api.ErrClash, "h.hidden"},
		rule{"p.add (1);", api.ErrArg, "p.add (1)"},
		rule{"p.add (1, p, p);", api.ErrArg, "p.add (1, p, p)"},
		rule{"p.add (p, 1);", api.ErrType, "p.add (p, 1)"},
		rule{"p.add (1, q);", api.ErrType, "p.add (1, q)"},
		rule{"p.add (1, r);", api.ErrType, "p.add (1, r)"},
		rule{"l.change (any);", api.ErrType, "l.change (any)"},
		rule{"l.all.all.change (l);", api.ErrType, "l.all.all.change (l)"},
		rule{"x := l.last;", api.ErrType, "x := l.last;"},
		rule{"j := p.add (1, p);", api.ErrType, "p.add (1, p)"},
		rule{"p.count;", api.ErrType, "p.count;"},
		rule{"p.twin;", api.ErrType, "p.twin;"},
		rule{"k := p.count;", api.ErrType, "k := p.count;"},
	))
}

// P6.2: calls to separate objects.
func TestSeparateCalls(t *testing.T) {
	checkRules(t, bodies(met(
		"separate r as v do j := v.count; v.pass (r, Void); v.pass (p, q); end;",
		"separate r as v when v.full do j := v.size (1); end;",
		"separate r as v do separate v as w do j := v.count + w.count; end; end;",
		"separate r as v do if t then from until v.full loop j := v.count; end; end; end;",
		"z := r; separate z as v do z := v.twin; z := v.far; end; separate s as w do end;",
		"separate p.far as v do end;",
		"separate r as v do k := attached v.next as w; check a: v = r; end; end;",
	)...))
	checkRules(t, bodies(
		rule{"j := r.count;", api.ErrState, "r.count"},
		rule{"j := s.count;", api.ErrState, "s.count"},
		rule{"j := r.none;", api.ErrState, "r.none"},
		rule{"separate r as v do j := r.count; end;", api.ErrState, "r.count"},
		rule{"separate r as v do j := v.far.count; end;", api.ErrState, "v.far.count"},
		rule{"separate r as far do j := p.far.count; end;", api.ErrState, "p.far.count"},
		rule{"separate r as v do j := v.twin.count; end;", api.ErrState, "v.twin.count"},
		rule{"separate r as v do end; j := v.count;", api.ErrName, "v"},
		rule{"if attached r as v then j := v.count; end;", api.ErrState, "v.count"},
		rule{"separate r as v do if attached v as w then j := w.count; end; end;", api.ErrState, "w.count"},
		rule{"separate r as v do check a: v.full; end; end;", api.ErrState, "v.full"},
		rule{"separate r as v do from invariant a: v.full; until t loop end; end;", api.ErrState, "v.full"},
		rule{"separate r as v do j := v.none; end;", api.ErrName, "v.none"},
		rule{"separate r as v do j := v.hidden; end;", api.ErrClash, "v.hidden"},
		rule{"separate r as v do v.add (1, p); end;", api.ErrType, "v.add (1, p)"},
		rule{"separate r as v do v.add (1, r); end;", api.ErrType, "v.add (1, r)"},
		rule{"separate r as v do v.pass (q, Void); end;", api.ErrType, "v.pass (q, Void)"},
		rule{"separate r as v do x := v.twin; end;", api.ErrType, "x := v.twin;"},
		rule{"separate r as v do y := v.next; end;", api.ErrType, "y := v.next;"},
	))
	checkRules(t, []rule{
		{"f (r: separate BOX) require a: r.full; do end", api.ErrState, "r.full"},
		{"f (r: separate BOX) do ensure a: r.full; end", api.ErrState, "r.full"},
		{"f (r: separate BOX) require a: r /= Void; do end", api.OK, ""},
		// Formals at a separate target.
		{"f (r: separate LIST [BOX]; w: separate BOX) do separate r as v do separate v.item as u do end; end; end", api.OK, ""},
		{"f (r: separate LIST [BOX]) do separate r as v do any := v.item; end; end", api.ErrType, "any := v.item;"},
		{"f (r: separate LIST [G]) do separate r as v do any := v.item; end; end", api.ErrType, "v.item"},
		{"f (r: separate LIST [BOX]) do separate r as v do v.change (b); end; end", api.ErrType, "v.change (b)"},
		{"f (r: separate LIST [G]) do separate r as v do v.change (g); end; end", api.ErrType, "v.change (g)"},
		{"f (r: separate LIST [BOX]) do separate r as v do put v.last = v.rest; end; end", api.ErrType, "v.last = v.rest"},
		{"f (r: separate LIST [BOX]; x: separate ANY) local y: separate ANY do separate r as v do y := v.all; put v.all = v.rest; end; end", api.OK, ""},
	})
}
