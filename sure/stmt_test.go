package sure_test

import (
	"strings"
	"testing"

	"cosigner/api"
)

// P6.2: assignments.
func TestAssign(t *testing.T) {
	checkRules(t, bodies(met("x := b; y := Void; y := p; z := p; z := x; j := i; k := t; n := j; b := p; d := q; any := p; e := g; e := Void; s := r; zero := 1; h := h; l := l.all; any := h; shape := shape;")...))
	checkRules(t, bodies(
		rule{"none := 1;", api.ErrName, "none := 1;"},
		rule{"p := b;", api.ErrName, "p := b;"},
		rule{"i := 1;", api.ErrName, "i := 1;"},
		rule{"work := 1;", api.ErrName, "work := 1;"},
		rule{"made := b;", api.ErrName, "made := b;"},
		rule{"f := 1;", api.ErrName, "f := 1;"},
		rule{"Result := 1;", api.ErrName, "Result := 1;"},
		rule{"none := none;", api.ErrName, "none"},
		rule{"if attached q as v then v := b; end;", api.ErrName, "v := b;"},
		rule{"separate r as v do v := r; end;", api.ErrName, "v := r;"},
		rule{"j := True;", api.ErrType, "j := True;"},
		rule{"k := 1;", api.ErrType, "k := 1;"},
		rule{"x := q;", api.ErrType, "x := q;"},
		rule{"x := Void;", api.ErrType, "x := Void;"},
		rule{"x := r;", api.ErrType, "x := r;"},
		rule{"z := Void;", api.ErrType, "z := Void;"},
		rule{"x := any;", api.ErrType, "x := any;"},
		rule{"x := h; h := b;", api.ErrType, "h := b;"},
		rule{"g := e;", api.ErrType, "g := e;"},
		rule{"g := any;", api.ErrType, "g := any;"},
		rule{"any := r;", api.ErrType, "any := r;"},
		rule{"any := 1;", api.ErrType, "any := 1;"},
		rule{"j := Void;", api.ErrType, "j := Void;"},
		rule{"j := b;", api.ErrType, "j := b;"},
	))
	checkRules(t, []rule{
		{"f: BOX do Result := b; end", api.OK, ""},
		{"f: BOX do Result := d; end", api.ErrType, "Result := d;"},
		{"f: BOX do raise 1; rescue Result := b; end", api.OK, ""},
		{"f (a: LIST [BOX]) local c: LIST [TIN] do c := a; end", api.ErrType, "c := a;"},
		{"f (a: LIST [TIN]) local c: LIST [BOX] do c := a; end", api.ErrType, "c := a;"},
		{"f (a: TIN) local c: BOX do c := a; end", api.OK, ""},
		{"f (a: BOX) local c: TIN do c := a; end", api.ErrType, "c := a;"},
	})
	// What is wrong with an attribute itself is told where it is declared; nothing conforms to its type.
	l := system(t, strings.Replace(base, "%", "f do d := Void; d := b; end", 1))
	featureOf(t, l, "MAIN", "d").Type.Name = "NONSENSE"
	got := faultsOf(t, l)
	want := []api.Fault{{Class: "MAIN", Feature: "d", At: -1, Err: api.ErrNone}, {Class: "MAIN", Feature: "f", At: 0, Err: api.ErrType}}
	if !alike(got, want) {
		t.Error(got)
	}
	l = system(t, strings.Replace(base, "%", "f do d := b; end", 1))
	featureOf(t, l, "MAIN", "d").Type.Args = []api.Type{{Kind: api.TyClass, Name: "BOX"}}
	got = faultsOf(t, l)
	want[0].Err = api.ErrType
	if !alike(got, want) {
		t.Error(got)
	}
	// Nothing conforms to such a type of an argument either; that of Void is none of a variable.
	l = system(t, strings.Replace(base, "%", "f do n := give (1, Void); end", 1))
	featureOf(t, l, "MAIN", "give").Args[1].Type = api.Type{}
	got = faultsOf(t, l)
	want = []api.Fault{{Class: "MAIN", Feature: "give", At: -1, Err: api.ErrType}, {Class: "MAIN", Feature: "f", At: 1, Err: api.ErrType}}
	if !alike(got, want) {
		t.Error(got)
	}
}

// P6.2: creations.
func TestMake(t *testing.T) {
	checkRules(t, bodies(met("create x.start; create y.fill (i); create z.start; create b.fill (1); create d.odd (b); create s.fill (n); create l.make (b); create x.odd (p);")...))
	checkRules(t, []rule{
		{"f: BOX do create Result.start; Result.add (1, b); end", api.OK, ""},
		{"f: detachable TIN do create Result.start; end", api.OK, ""},
		{"f: INTEGER do create Result.start; end", api.ErrType, "create Result.start;"},
		{"f do create Result.start; end", api.ErrName, "create Result.start;"},
		{"f local a: LIST [G] do create a.make (g); end", api.OK, ""},
		{"f local a: detachable LIST [LIST [G]]; c: LIST [G] do create c.make (g); create a.make (c); end", api.OK, ""},
		{"f local a: LIST [G] do create a.make (b); end", api.ErrType, "create a.make (b);"},
		{"f local a: LIST [G] do create a.make (e); end", api.ErrType, "create a.make (e);"},
		// Objects at new processors.
		{"f local a: separate LIST [BOX] do create a.make (b); end", api.ErrType, "create a.make (b);"},
		{"f local a: separate LIST [G] do create a.make (g); end", api.ErrType, "create a.make (g);"},
		{"f local a: separate BOX do create a.odd (b); end", api.ErrType, "create a.odd (b);"},
		{"f local a: separate BOX do create a.fill (1); end", api.OK, ""},
	})
	checkRules(t, bodies(
		rule{"create none.start;", api.ErrName, "create none.start;"},
		rule{"create p.start;", api.ErrName, "create p.start;"},
		rule{"create work.start;", api.ErrName, "create work.start;"},
		rule{"if attached q as v then create v.start; end;", api.ErrName, "create v.start;"},
		rule{"create none.start (nope);", api.ErrName, "nope"},
		rule{"create none.nothing (1, 2);", api.ErrName, "create none.nothing (1, 2);"},
		rule{"create j.start;", api.ErrType, "create j.start;"},
		rule{"create k.start;", api.ErrType, "create k.start;"},
		rule{"create any.start;", api.ErrType, "create any.start;"},
		rule{"create g.start;", api.ErrType, "create g.start;"},
		rule{"create e.start;", api.ErrType, "create e.start;"},
		rule{"create h.start;", api.ErrType, "create h.start;"},
		rule{"create shape.make;", api.ErrState, "create shape.make;"},
		rule{"create shape.none (1);", api.ErrState, "create shape.none (1);"},
		rule{"create x.none;", api.ErrNone, "create x.none;"},
		rule{"create x.twin;", api.ErrNone, "create x.twin;"},
		rule{"create x.add (1, b);", api.ErrNone, "create x.add (1, b);"},
		rule{"create x.count;", api.ErrNone, "create x.count;"},
		rule{"create x.start (1);", api.ErrArg, "create x.start (1);"},
		rule{"create x.fill;", api.ErrArg, "create x.fill;"},
		rule{"create x.fill (k);", api.ErrType, "create x.fill (k);"},
		rule{"create x.fill (x.count);", api.ErrVoid, "x"},
		rule{"create x.odd (x);", api.ErrVoid, "x"},
	))
	// A name of Create that is none of a procedure with a body.
	for name, want := range map[string]api.Errno{"count": api.ErrType, "none": api.ErrNone, "twin": api.ErrType, "size": api.ErrArg} {
		l := system(t, strings.Replace(base, "%", "f local x: BOX do create x."+name+"; end", 1))
		l[0].Create = append(l[0].Create, name)
		got := faultsOf(t, l)
		if len(got) == 0 || got[len(got)-1] != (api.Fault{Class: "MAIN", Feature: "f", At: 0, Err: want}) {
			t.Error(name, got)
		}
	}
}

// P6.2: ifs, loops, checks, and statements with numbers.
func TestControl(t *testing.T) {
	checkRules(t, bodies(met(
		"if k then j := 1; else j := 2; end; if t then end;",
		"from j := 0; invariant a: j >= 0; until j = 3 variant 3 - j loop j := j + 1; end; from until True loop end;",
		"check a: k; c: t and k; end; check end;",
		"put 1; put True; put - i; raise 0;", "raise 99;",
	)...))
	checkRules(t, bodies(
		rule{"if 1 then end;", api.ErrType, "if 1 then end;"},
		rule{"if p then end;", api.ErrType, "if p then end;"},
		rule{"if 1 then none; end;", api.ErrType, "if 1 then none; end;"},
		rule{"if none then end;", api.ErrName, "none"},
		rule{"if t then none; else nope; end;", api.ErrName, "none"},
		rule{"if t then else nope; end;", api.ErrName, "nope"},
		rule{"from until 1 loop end;", api.ErrType, "from until 1 loop end;"},
		rule{"from until 1 variant none loop end;", api.ErrType, "from until 1 variant none loop end;"},
		rule{"from until t variant k loop end;", api.ErrType, "from until t variant k loop end;"},
		rule{"from until t variant k loop none; end;", api.ErrType, "from until t variant k loop none; end;"},
		rule{"from until t loop none; end;", api.ErrName, "none"},
		rule{"from none; until 1 loop end;", api.ErrName, "none"},
		rule{"from invariant a: 1; until 1 loop end;", api.ErrType, "1"},
		rule{"from invariant a: none; until nope loop end;", api.ErrName, "none"},
		rule{"from none; invariant a: nope; until t loop end;", api.ErrName, "none"},
		rule{"check a: 1; end;", api.ErrType, "1"},
		rule{"check a: t; c: p; end;", api.ErrType, "p"},
		rule{"check a: t; c: none; end;", api.ErrName, "none"},
		rule{"retry;", api.ErrState, "retry;"},
		rule{"if t then retry; end;", api.ErrState, "retry;"},
		rule{"put p;", api.ErrType, "put p;"},
		rule{"put Void;", api.ErrType, "put Void;"},
		rule{"put none;", api.ErrName, "none"},
		rule{"put any;", api.ErrType, "put any;"},
	))
	checkRules(t, []rule{
		{"f do rescue retry; end", api.OK, ""},
		{"f do rescue if t then retry; else put 1; end; from until t loop retry; end; end", api.OK, ""},
		{"f require a: 1; do end", api.ErrType, "1"},
		{"f do ensure a: n; end", api.ErrType, "n"},
		{"f require a: d; do none; end", api.ErrType, "d"},
		{"f do none; ensure a: 1; end", api.ErrName, "none"},
		{"f do ensure a: 1; rescue none; end", api.ErrType, "1"},
		{"f do rescue none; end", api.ErrName, "none"},
	})
}

// P6.2: separate statements.
func TestSeparate(t *testing.T) {
	checkRules(t, bodies(
		rule{"separate p as v do end;", api.ErrType, "separate p as v do end;"},
		rule{"separate q as v do end;", api.ErrType, "separate q as v do end;"},
		rule{"separate i as v do end;", api.ErrType, "separate i as v do end;"},
		rule{"separate Void as v do end;", api.ErrType, "separate Void as v do end;"},
		rule{"separate g as v do end;", api.ErrType, "separate g as v do end;"},
		rule{"separate none as v do end;", api.ErrName, "none"},
		rule{"separate p as p do end;", api.ErrType, "separate p as p do end;"},
		rule{"separate r as p do end;", api.ErrTwice, "separate r as p do end;"},
		rule{"separate r as x do end;", api.ErrTwice, "separate r as x do end;"},
		rule{"separate r as n do end;", api.ErrTwice, "separate r as n do end;"},
		rule{"separate r as calm do end;", api.ErrTwice, "separate r as calm do end;"},
		rule{"separate r as v do end; separate r as v do end;", api.ErrTwice, "separate r as v do end; #2"},
		rule{"separate r as v do separate r as v do end; end;", api.ErrTwice, "separate r as v do end;"},
		rule{"separate r as r do end;", api.ErrTwice, "separate r as r do end;"},
		rule{"separate v as v do end;", api.ErrName, "v"},
		rule{"separate r as v when 1 do end;", api.ErrType, "separate r as v when 1 do end;"},
		rule{"separate r as v when v do end;", api.ErrType, "separate r as v when v do end;"},
		rule{"separate r as v when 1 do none; end;", api.ErrType, "separate r as v when 1 do none; end;"},
		rule{"separate r as v when none do nope; end;", api.ErrName, "none"},
		rule{"separate r as p when none do end;", api.ErrTwice, "separate r as p when none do end;"},
		rule{"separate r as v when attached q as w do y := w; end;", api.ErrName, "w"},
		rule{"separate r as v do none; end;", api.ErrName, "none"},
	))
	checkRules(t, []rule{
		{"f (a: detachable separate BOX) do separate a as v do end; end", api.ErrVoid, "separate a as v do end;"},
		{"f (a: detachable separate BOX) do separate a as a do end; end", api.ErrVoid, "separate a as a do end;"},
		{"f (a: separate ANY) do separate a as v do end; end", api.OK, ""},
		{"f (a: separate LIST [G]) do separate a as v do v.all; end; end", api.ErrType, "v.all;"},
	})
}

// body returns a change that gives the body of f one statement.
func body(s api.Stmt) func(*api.Feature) {
	return func(f *api.Feature) { f.Body = []api.Stmt{s} }
}

// put returns a change that gives the body of f one expression; it is the node 1.
func put(e api.Expr) func(*api.Feature) {
	return body(api.Stmt{Kind: api.StPut, Exprs: []api.Expr{e}})
}

// form is a change of a feature, and its fault.
type form struct {
	change func(*api.Feature)
	want   api.Errno
	at     int
}

// checkForms checks the faults of changed features, which are all that there are.
func checkForms(t *testing.T, feature string, l []form) {
	t.Helper()
	for i, x := range l {
		classes := system(t, strings.Replace(base, "%", feature, 1))
		x.change(featureOf(t, classes, "MAIN", "f"))
		var want []api.Fault
		if x.want != api.OK {
			want = []api.Fault{{Class: "MAIN", Feature: "f", At: x.at, Err: x.want}}
		}
		if got := faultsOf(t, classes); !alike(got, want) {
			t.Errorf("%d: %v, want %v", i, got, want)
		}
	}
}

// P6.2: which parts an expression of each kind has; what is wrong with them comes ahead of all that stands within.
func TestFormsOfExpressions(t *testing.T) {
	one, wrong := api.Expr{Kind: api.ExInt, N: 1}, api.Expr{Kind: api.ExCall, Name: "none"}
	n := api.Expr{Kind: api.ExCall, Name: "n"}
	b := api.Expr{Kind: api.ExCall, Name: "b"}
	truth := api.Expr{Kind: api.ExBool, N: 1}
	with := func(kind int, name string, n int, kids ...api.Expr) api.Expr {
		return api.Expr{Kind: kind, Name: name, N: n, Kids: kids}
	}
	var l []form
	for _, e := range []api.Expr{
		with(0, "", 0), with(11, "", 0), with(-1, "", 0), with(0, "", 0, wrong),
		with(api.ExInt, "a", 1), with(api.ExInt, "", 1, wrong), with(api.ExInt, "a", -1),
		with(api.ExBool, "a", 1), with(api.ExBool, "", 2), with(api.ExBool, "", -1), with(api.ExBool, "", 0, wrong),
		with(api.ExVoid, "a", 0), with(api.ExVoid, "", 1), with(api.ExVoid, "", 0, wrong),
		with(api.ExCurrent, "a", 0), with(api.ExCurrent, "", 1), with(api.ExCurrent, "", 0, wrong),
		with(api.ExResult, "a", 0), with(api.ExResult, "", 1), with(api.ExResult, "", 0, wrong),
		with(api.ExCall, "n", 2), with(api.ExCall, "n", -1), with(api.ExCall, "count", 1), with(api.ExCall, "n", 2, wrong),
		with(api.ExBin, "+", 0), with(api.ExBin, "+", 0, wrong), with(api.ExBin, "+", 0, wrong, one, one), with(api.ExBin, "+", 1, wrong, one), with(api.ExBin, "and", -1, wrong, one),
		with(api.ExUn, "-", 0), with(api.ExUn, "-", 0, wrong, one), with(api.ExUn, "-", 1, wrong),
		with(api.ExOld, "", 0), with(api.ExOld, "", 0, wrong, one), with(api.ExOld, "a", 0, wrong), with(api.ExOld, "", 1, wrong),
		with(api.ExAttached, "v", 0), with(api.ExAttached, "v", 0, wrong, b), with(api.ExAttached, "v", 1, wrong),
	} {
		l = append(l, form{put(e), api.ErrForm, 1})
	}
	l = append(l,
		form{put(with(api.ExInt, "", 0)), api.OK, 0},
		form{put(with(api.ExInt, "", api.MaxNum)), api.OK, 0},
		form{put(with(api.ExInt, "", api.MaxNum+1)), api.ErrArg, 1},
		form{put(with(api.ExInt, "", -1)), api.ErrArg, 1},
		form{put(with(api.ExBool, "", 0)), api.OK, 0},
		form{put(with(api.ExCall, "count", 1, b)), api.OK, 0},
		form{put(with(api.ExCall, "", 0)), api.ErrName, 1},
		form{put(with(api.ExCall, "", 1, b)), api.ErrName, 1},
		// Other names of operators are asked for behind what stands within.
		form{put(with(api.ExBin, "xor", 0, truth, truth)), api.ErrForm, 1},
		form{put(with(api.ExBin, "", 0, truth, truth)), api.ErrForm, 1},
		form{put(with(api.ExBin, "not", 0, one, truth)), api.ErrForm, 1},
		form{put(with(api.ExBin, "xor", 0, truth, wrong)), api.ErrName, 3},
		form{put(with(api.ExUn, "+", 0, n)), api.ErrForm, 1},
		form{put(with(api.ExUn, "", 0, truth)), api.ErrForm, 1},
		form{put(with(api.ExUn, "+", 0, wrong)), api.ErrName, 2},
	)
	for _, name := range []string{"", "V", "1v", "_v", "do", "true", "current", "result", "v w", "aaaaaaaaaaaaaaaaaaaaa"} {
		l = append(l, form{put(with(api.ExAttached, name, 0, b)), api.ErrName, 1})
	}
	l = append(l, form{put(with(api.ExAttached, "V", 0, one)), api.ErrName, 1}, form{put(with(api.ExAttached, "V", 0, wrong)), api.ErrName, 2})
	l = append(l, form{put(with(api.ExAttached, "aaaaaaaaaaaaaaaaaaa_", 0, b)), api.OK, 0}, form{put(with(api.ExAttached, "v1", 0, b)), api.OK, 0})
	checkForms(t, "f do end", l)
}

// P6.2: which parts a statement of each kind has; what is wrong with them comes ahead of all that stands within.
func TestFormsOfStatements(t *testing.T) {
	truth, wrong := api.Expr{Kind: api.ExBool, N: 1}, api.Expr{Kind: api.ExCall, Name: "none"}
	work := api.Expr{Kind: api.ExCall, Name: "work"}
	s := api.Expr{Kind: api.ExCall, Name: "s"}
	start := api.Expr{Kind: api.ExCall, Name: "start"}
	right := map[int]api.Stmt{
		api.StAssign: {Name: "t", Exprs: []api.Expr{truth}},
		api.StCall:   {Exprs: []api.Expr{work}},
		api.StMake:   {Name: "d", Exprs: []api.Expr{start}},
		api.StIf:     {Exprs: []api.Expr{truth}},
		api.StLoop:   {Exprs: []api.Expr{truth}},
		api.StCheck:  {},
		api.StSep:    {Name: "v", Exprs: []api.Expr{s}},
		api.StRetry:  {},
		api.StRaise:  {N: 3},
		api.StPut:    {Exprs: []api.Expr{truth}},
	}
	may := map[int]string{
		api.StAssign: "name", api.StMake: "name", api.StIf: "body else", api.StLoop: "second tags init body",
		api.StCheck: "tags", api.StSep: "name second body", api.StRaise: "n",
	}
	parts := map[string]func(*api.Stmt){
		"name":   func(s *api.Stmt) { s.Name += "d" },
		"n":      func(s *api.Stmt) { s.N = 7 },
		"first":  func(s *api.Stmt) { s.Exprs = append([]api.Expr(nil), wrong) },
		"second": func(s *api.Stmt) { s.Exprs = append(s.Exprs, api.Expr{Kind: api.ExInt}) },
		"third":  func(s *api.Stmt) { s.Exprs = append(s.Exprs, wrong, wrong) },
		"tags":   func(s *api.Stmt) { s.Tags = []api.Clause{{Tag: "a", Expr: truth}} },
		"init":   func(s *api.Stmt) { s.Init = []api.Stmt{{Kind: api.StPut, Exprs: []api.Expr{truth}}} },
		"body":   func(s *api.Stmt) { s.Body = []api.Stmt{{Kind: api.StPut, Exprs: []api.Expr{truth}}} },
		"else":   func(s *api.Stmt) { s.Else = []api.Stmt{{Kind: api.StPut, Exprs: []api.Expr{truth}}} },
	}
	var l []form
	for kind, is := range right {
		is.Kind = kind
		if kind != api.StRetry {
			l = append(l, form{body(is), api.OK, 0})
		}
		for part, add := range parts {
			more := copied(is)
			add(&more)
			hasFirst := len(is.Exprs) > 0
			switch {
			case isIn(part, may[kind]) && (part == "name" || part == "second"):
				continue // whether they are right is asked elsewhere
			case isIn(part, may[kind]):
				l = append(l, form{body(more), api.OK, 0})
			case part == "first" && hasFirst:
				l = append(l, form{func(f *api.Feature) { more.Exprs = nil; body(more)(f) }, api.ErrForm, 0})
			default:
				if hasFirst {
					more.Exprs[0] = wrong
				}
				l = append(l, form{body(more), api.ErrForm, 0})
			}
		}
	}
	for _, kind := range []int{0, 11, -1} {
		l = append(l, form{body(api.Stmt{Kind: kind}), api.ErrForm, 0}, form{body(api.Stmt{Kind: kind, Exprs: []api.Expr{wrong}}), api.ErrForm, 0})
	}
	number := api.Stmt{Kind: api.StRaise}
	for n, want := range map[int]api.Errno{0: api.OK, 99: api.OK, 100: api.ErrArg, -1: api.ErrArg} {
		number.N = n
		l = append(l, form{body(number), want, 0})
	}
	// Of calls and creations, the expression.
	target := api.Expr{Kind: api.ExCall, Name: "start", N: 1, Kids: []api.Expr{wrong}}
	for _, e := range []api.Expr{truth, target, {Kind: api.ExBin, Name: "+", Kids: []api.Expr{wrong, wrong}}} {
		if e.Kind != api.ExCall {
			l = append(l, form{body(api.Stmt{Kind: api.StCall, Exprs: []api.Expr{e}}), api.ErrForm, 0})
		}
		l = append(l, form{body(api.Stmt{Kind: api.StMake, Name: "d", Exprs: []api.Expr{e}}), api.ErrForm, 0})
	}
	for _, name := range []string{"", "V", "do"} {
		l = append(l, form{body(api.Stmt{Kind: api.StSep, Name: name, Exprs: []api.Expr{s}}), api.ErrName, 0})
	}
	checkForms(t, "f do end", l)
}

// P6.2: tags of clauses.
func TestTags(t *testing.T) {
	truth, one := api.Expr{Kind: api.ExBool, N: 1}, api.Expr{Kind: api.ExInt, N: 1}
	var l []form
	for tag, want := range map[string]api.Errno{"a": api.OK, "n": api.OK, "": api.ErrName, "A": api.ErrName, "then": api.ErrName, "aaaaaaaaaaaaaaaaaaaaa": api.ErrName} {
		clauses := []api.Clause{{Tag: "a", Expr: truth}, {Tag: tag, Expr: truth}}
		l = append(l,
			form{func(f *api.Feature) { f.Require = clauses }, want, 1},
			form{func(f *api.Feature) { f.Ensure = clauses }, want, 1},
			form{body(api.Stmt{Kind: api.StCheck, Tags: clauses}), want, 2},
			form{body(api.Stmt{Kind: api.StLoop, Tags: clauses, Exprs: []api.Expr{truth}}), want, 2},
		)
	}
	bad := []api.Clause{{Tag: "A", Expr: api.Expr{Kind: api.ExBin, Name: "+", Kids: []api.Expr{one, truth}}}}
	l = append(l, form{func(f *api.Feature) { f.Require = bad }, api.ErrName, 0})
	checkForms(t, "f do end", l)
}
