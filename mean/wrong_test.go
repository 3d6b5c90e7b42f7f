package mean_test

import (
	"strings"
	"testing"

	"cosigner/api"
	"cosigner/mean"
)

// tools are features that the bodies of the tests of what goes wrong use.
const tools = "n: INTEGER; b: BOOLEAN; y: detachable MAIN; o: detachable OTHER; p do raise 1; end q require no: False; do end f: INTEGER do Result := 3; end " +
	"g (i: INTEGER): MAIN do Result := Current; end h (i: INTEGER) do put i; end sep: separate OTHER; dep: DEP; any_one: ANY; list: LIST [ OTHER ]; "

// others are the classes that they name.
const others = "class OTHER create start feature { ANY } start do end with (i: INTEGER) do end value: INTEGER; back: OTHER do Result := Current; end fun: INTEGER do end end " +
	"deferred class DEP feature { ANY } start do end end class LIST [ G: OTHER ] create make feature { ANY } make do end item: G; twice: LIST [ LIST [ G ] ]; end "

// goesWrong checks the error of a run with a body of make, with locals and bound names, and a result-less feature.
func goesWrong(t *testing.T, stmts string, err api.Errno, fault int) {
	t.Helper()
	comesTo(t, system(t, others+mainWith("local i: INTEGER; x: detachable MAIN; s: separate OTHER; l: LIST [ OTHER ]; e: OTHER do "+stmts, tools)), err, fault)
}

// P7.2: what goes wrong, and what comes first.
func TestWrong(t *testing.T) {
	t.Parallel()
	for _, stmts := range []string{
		// no such name
		"put none;", "none;", "put g;", "x := y; put none (1);", "create e.start; put e.none;", "put Current.none;", "create l.make; put l.value;",
		// values of other kinds
		"put 1 + True;", "put True + 1;", "put 1 < Void;", "put Void < 1;", "put - True;", "put not 1;", "put 1 and True;", "put True and 1;", "put False or 1;", "put 1 or True;",
		"put 1 implies True;", "put True implies 1;", "if 1 then end;", "if Void then end;", "from until 1 loop end;", "from until True variant True loop end;", "put Void;", "put Current;",
		"put 1 = True;", "put True /= 1;", "put 1 = Void;", "put Current = True;", "put n.f;", "put b.f;", "y := 0; put y.n;", "y := True; y.p;", "put (1).f;", "(True).p;", "check a: 1; end;", "check a: Void; end;", "from invariant a: 1; until True loop end;",
		// numbers of arguments
		"p (1);", "put f (1);", "h;", "h (1, 2);", "put Current.f (1);", "Current.h;", "put n (1);", "put i (1);", "put y (1);", "create e.start (1);", "create e.with;", "put Current.n (1);",
		// procedures for values
		"put p;", "put q;", "put Current.p;", "put Current.q;", "n := p;", "put 1 + p;", "h (p);", "put Void = p;",
		// targets of assignments and creations
		"none := 1;", "f := 1;", "p := 1;", "Result := 1;", "if attached Current as z then z := Void; end;", "create none.start;", "create f.start;", "create Result.start;", "if attached Current as z then create z.p; end;",
		// what is created
		"create n.start;", "create i.start;", "create dep.start;", "create any_one.start;", "create e.none;", "create e.value;", "create x.n;",
		// Result, retry and old
		"put Result;", "check a: Result = 1; end;", "retry;", "if True then retry; end;", "put old n;", "check a: old n = 1; end;", "put old (1 // 0);",
	} {
		goesWrong(t, stmts, api.ErrType, 0)
	}
}

// P7.2: what comes first, of something that goes wrong and an exception.
func TestWrongOrder(t *testing.T) {
	t.Parallel()
	for _, x := range []struct {
		stmts string
		err   api.Errno
		fault int
	}{
		{"put (1 // 0) + True;", api.OK, api.FaZero},
		{"put True + (1 // 0);", api.ErrType, 0}, // the left side is asked ahead of the right one
		{"put 1 + (1 // 0) + True;", api.OK, api.FaZero},
		{"put True < (1 // 0);", api.ErrType, 0},
		{"put 1 = (1 // 0 = 0);", api.OK, api.FaZero}, // kinds are compared behind both sides
		{"put Void = (1 // 0);", api.OK, api.FaZero},
		{"put 1 and (1 // 0 = 0);", api.ErrType, 0},
		{"put False and 1;", api.OK, 0},
		{"put True or 1;", api.OK, 0},
		{"put False implies 1;", api.OK, 0},
		{"none := 1 // 0;", api.OK, api.FaZero},
		{"f := 1 // 0;", api.OK, api.FaZero},
		{"Result := 1 // 0;", api.OK, api.FaZero},
		{"none (1 // 0);", api.OK, api.FaZero},
		{"put f (1 // 0);", api.OK, api.FaZero},
		{"put p (1 // 0);", api.OK, api.FaZero},
		{"put n (1 // 0);", api.OK, api.FaZero},
		{"put i (1 // 0);", api.ErrType, 0}, // a variable has no arguments
		{"put (1).f (1 // 0);", api.OK, api.FaZero},
		{"put (1).f;", api.ErrType, 0},
		{"put y.f (1 // 0);", api.OK, api.FaZero},
		{"put y.none;", api.OK, api.FaVoid},
		{"put y.p;", api.OK, api.FaVoid},
		{"put y.f (1, 2);", api.OK, api.FaVoid},
		{"put Void.none;", api.OK, api.FaVoid},
		{"put any_one.none;", api.OK, api.FaVoid},
		{"y := Current; put y.none (1 // 0);", api.OK, api.FaZero},
		{"create none.start (1 // 0);", api.ErrType, 0}, // of a creation all is asked ahead of its arguments
		{"create e.none (1 // 0);", api.ErrType, 0},
		{"create e.start (1 // 0);", api.ErrType, 0},
		{"create e.with (1 // 0);", api.OK, api.FaZero},
		{"create dep.start (1 // 0);", api.ErrType, 0},
		{"create s.start;", api.ErrState, 0},
		{"create s.none (1 // 0);", api.ErrState, 0},
		{"create sep.start;", api.ErrState, 0},
		{"create sep.with (1 // 0);", api.ErrState, 0},
		{"separate sep as z do end;", api.ErrState, 0},
		{"separate none as z when 1 // 0 = 0 do put 1 // 0; end;", api.ErrState, 0},
		{"put 1 // 0; put none;", api.OK, api.FaZero}, // what is not come to is not wrong
		{"if False then put none; retry; separate none as z do end; end;", api.OK, 0},
		{"put none; separate sep as z do end;", api.ErrType, 0},
		{"separate sep as z do end; put none;", api.ErrState, 0},
		{"put s = Void; s := sep; e := s; create e.start; s := e; put s.value; put s = e;", api.OK, 0}, // what is separate is not wrong otherwise
		{"i; x; s; n; f;", api.OK, 0},
		{"create e.fun;", api.OK, 0}, // a function is a routine with a body
	} {
		l := system(t, others+mainWith("local i: INTEGER; x: detachable MAIN; s: separate OTHER; l: LIST [ OTHER ]; e: OTHER do "+x.stmts, tools))
		m, err := mean.Run(l, "MAIN", "make", many)
		if err != x.err || m.Fault != x.fault {
			t.Errorf("%s: error %d, fault %d; want %d, %d", x.stmts, err, m.Fault, x.err, x.fault)
		}
	}
}

// P7.2: that a procedure is called for a value is asked ahead of the call, of invariants, and of how deep calls are.
func TestWrongAhead(t *testing.T) {
	t.Parallel()
	low := "class LOW create make feature { ANY } n: INTEGER; make do end p require no: False; do end f: INTEGER require no: False; do end low (i: INTEGER) do n := i; end invariant pos: n >= 0; end "
	for stmts, want := range map[string]struct {
		err   api.Errno
		fault int
	}{
		"put x.p;":     {api.ErrType, 0},
		"put x.none;":  {api.ErrType, 0},
		"put x.n (1);": {api.ErrType, 0},
		"put x.f;":     {api.OK, api.FaInv},
		"x.p;":         {api.OK, api.FaInv},
		"put x.n;":     {api.OK, api.FaInv},
	} {
		// the object does not keep its invariant when the exception of low has been rescued
		l := system(t, low+mainWith("local x: LOW; k: INTEGER do if k = 0 then create x.make; x.low (-1); end; "+stmts+" rescue if k = 0 then k := 1; retry; end;", ""))
		comesTo(t, l, want.err, want.fault)
	}
	for stmts, err := range map[string]api.Errno{"put p;": api.ErrType, "p;": api.OK} {
		comesTo(t, system(t, body(stmts, "p do Current.p; end")), err, map[api.Errno]int{api.OK: api.FaDeep}[err])
	}
}

// trees calls a test for each of some trees in place of the statement of make, with their errors.
func wrongTrees(t *testing.T, err api.Errno, fault int, trees ...api.Stmt) {
	t.Helper()
	for _, s := range trees {
		l := system(t, others+mainWith("local i: INTEGER; e: OTHER do", tools))
		featureOf(t, l, "MAIN", "make").Body = []api.Stmt{s}
		comesTo(t, l, err, fault)
	}
}

// P7.2: trees that have not the parts, or the number, of their kind.
func TestWrongForms(t *testing.T) {
	t.Parallel()
	one, zero := integer(1), binary("//", integer(1), integer(0))
	call, void := variable("f"), api.Expr{Kind: api.ExVoid}
	truth := api.Expr{Kind: api.ExBool, N: 1}
	stmts := []api.Stmt{{Kind: api.StPut, Exprs: []api.Expr{one}}}
	tags := []api.Clause{{Tag: "a", Expr: truth}}
	put := func(e api.Expr) api.Stmt { return api.Stmt{Kind: api.StPut, Exprs: []api.Expr{e}} }
	expr := func(kind, n int, name string, kids ...api.Expr) api.Stmt {
		return put(api.Expr{Kind: kind, N: n, Name: name, Kids: kids})
	}
	wrongTrees(t, api.ErrType, 0,
		expr(0, 0, ""), expr(11, 0, ""), expr(-1, 0, ""), expr(api.ExInt, -1, ""), expr(api.ExInt, api.MaxNum+1, ""), expr(api.ExInt, 1, "", zero),
		expr(api.ExBool, 2, ""), expr(api.ExBool, -1, ""), expr(api.ExBool, 1, "", zero), expr(api.ExBin, 0, "+", zero), expr(api.ExBin, 0, "+", zero, one, one), expr(api.ExBin, 0, "+"),
		expr(api.ExUn, 0, "-"), expr(api.ExUn, 0, "-", zero, one), expr(api.ExUn, 0, "+", zero), expr(api.ExUn, 0, "", zero), expr(api.ExOld, 0, "", one),
		expr(api.ExAttached, 0, "z"), expr(api.ExAttached, 0, "z", zero, one), expr(api.ExCall, 1, "f"), expr(api.ExCall, 2, "f"), expr(api.ExCall, -1, "n"), expr(api.ExCall, 2, "f", api.Expr{Kind: api.ExCurrent}),
		expr(api.ExBin, 0, "?", one, one), expr(api.ExBin, 0, "not", truth, truth), expr(api.ExBin, 0, "?", truth, zero), expr(api.ExBin, 0, "", one, one),
		put(binary("=", api.Expr{Kind: api.ExVoid, Kids: []api.Expr{zero}}, void)), put(binary("=", void, api.Expr{Kind: api.ExCurrent, Kids: []api.Expr{zero}})),
		api.Stmt{}, api.Stmt{Kind: 11}, api.Stmt{Kind: -1},
		api.Stmt{Kind: api.StPut}, api.Stmt{Kind: api.StPut, Exprs: []api.Expr{zero, one}}, api.Stmt{Kind: api.StPut, Exprs: []api.Expr{one}, Body: stmts},
		api.Stmt{Kind: api.StAssign, Name: "n"}, api.Stmt{Kind: api.StAssign, Name: "n", Exprs: []api.Expr{zero, one}}, api.Stmt{Kind: api.StAssign, Name: "n", Exprs: []api.Expr{one}, Tags: tags},
		api.Stmt{Kind: api.StCall}, api.Stmt{Kind: api.StCall, Exprs: []api.Expr{one}}, api.Stmt{Kind: api.StCall, Exprs: []api.Expr{zero}}, api.Stmt{Kind: api.StCall, Exprs: []api.Expr{call, call}}, api.Stmt{Kind: api.StCall, Exprs: []api.Expr{call}, Else: stmts},
		api.Stmt{Kind: api.StCall, Exprs: []api.Expr{{Kind: api.ExCall, N: 1, Name: "f"}}},
		api.Stmt{Kind: api.StMake, Name: "e"}, api.Stmt{Kind: api.StMake, Name: "e", Exprs: []api.Expr{void}}, api.Stmt{Kind: api.StMake, Name: "e", Exprs: []api.Expr{{Kind: api.ExCall, N: 1, Name: "start", Kids: []api.Expr{zero}}}},
		api.Stmt{Kind: api.StMake, Name: "e", Exprs: []api.Expr{variable("start"), one}}, api.Stmt{Kind: api.StMake, Name: "e", Exprs: []api.Expr{variable("start")}, Init: stmts},
		api.Stmt{Kind: api.StIf}, api.Stmt{Kind: api.StIf, Exprs: []api.Expr{truth, truth}}, api.Stmt{Kind: api.StIf, Exprs: []api.Expr{truth}, Tags: tags}, api.Stmt{Kind: api.StIf, Exprs: []api.Expr{truth}, Init: stmts},
		api.Stmt{Kind: api.StLoop}, api.Stmt{Kind: api.StLoop, Init: stmts, Exprs: []api.Expr{truth, one, one}}, api.Stmt{Kind: api.StLoop, Exprs: []api.Expr{truth}, Else: stmts},
		api.Stmt{Kind: api.StCheck, Exprs: []api.Expr{truth}}, api.Stmt{Kind: api.StCheck, Tags: tags, Body: stmts},
		api.Stmt{Kind: api.StRaise, N: -1}, api.Stmt{Kind: api.StRaise, N: 100}, api.Stmt{Kind: api.StRaise, Exprs: []api.Expr{one}}, api.Stmt{Kind: api.StRaise, Body: stmts},
	)
	wrongTrees(t, api.OK, api.FaZero, expr(api.ExBin, 0, "?", zero, one), expr(api.ExBin, 0, "?", one, zero), expr(api.ExBin, 0, "", zero, truth))
	wrongTrees(t, api.OK, api.FaVoid, expr(api.ExCall, 1, "f", void))
	wrongTrees(t, api.ErrState, 0, api.Stmt{Kind: api.StSep}, api.Stmt{Kind: api.StSep, Exprs: []api.Expr{zero, zero, zero}})
	l := system(t, mainWith("do raise 1; rescue retry;", ""))
	f := featureOf(t, l, "MAIN", "make")
	f.Rescue[0].Exprs = []api.Expr{one}
	comesTo(t, l, api.ErrType, 0)
	f.Body = append([]api.Stmt{{Kind: api.StPut, Name: "x", N: 7, Exprs: []api.Expr{{Kind: api.ExInt, N: 4, Name: "y"}}}}, f.Body...)
	f.Rescue = nil
	comesTo(t, l, api.OK, 101, 4) // names and numbers that a kind does not use are no parts
}

// P7.2: what goes wrong in clauses.
func TestWrongClauses(t *testing.T) {
	t.Parallel()
	text := "class CELL create make feature { ANY } x: INTEGER; make do end f (i: INTEGER): INTEGER require REQUIRE local k: INTEGER do if attached Current as c then k := c.x; end; Result := 5; ensure ENSURE end " +
		"p (i: INTEGER) do ensure PENSURE end get: INTEGER do Result := 2; end invariant INVARIANT end " + mainWith("local c: CELL do create c.make; CALL", "")
	for _, x := range []struct {
		where, clause string
		err           api.Errno
	}{
		{"REQUIRE", "", api.OK}, {"REQUIRE", "a: i = 1;", api.OK}, {"REQUIRE", "a: get = 2;", api.OK}, {"REQUIRE", "a: Current.get = 2;", api.OK},
		{"REQUIRE", "a: 1;", api.ErrType}, {"REQUIRE", "a: Void;", api.ErrType}, {"REQUIRE", "a: Result = 0;", api.ErrType}, {"REQUIRE", "a: old i = 1;", api.ErrType}, {"REQUIRE", "a: k = 0;", api.ErrType},
		{"REQUIRE", "a: attached Current as d and d.x = 0;", api.OK}, {"REQUIRE", "a: attached Current as d; b: d.x = 0;", api.ErrType}, // a bound name remains until the clause ends
		{"ENSURE", "a: Result = 5;", api.OK}, {"ENSURE", "a: old i = 1;", api.OK}, {"ENSURE", "a: i = 1; b: get = 2;", api.OK},
		{"ENSURE", "a: 1;", api.ErrType}, {"ENSURE", "a: k = 0;", api.ErrType}, {"ENSURE", "a: c.x = 0;", api.ErrType}, {"ENSURE", "a: old Result = 0;", api.ErrType}, {"ENSURE", "a: old old i = 1;", api.ErrType},
		{"ENSURE", "a: old none = 0;", api.ErrType}, {"ENSURE", "a: True or old none = 0;", api.ErrType}, {"ENSURE", "a: attached Current as d; b: d.x = 0;", api.ErrType}, {"ENSURE", "a: True or Result;", api.OK},
		{"ENSURE", "a: attached Current as d and old d.x = 0;", api.ErrType}, // old is reckoned ahead
		{"PENSURE", "a: Result = 0;", api.ErrType}, {"PENSURE", "a: True or Result = 0;", api.OK},
		{"INVARIANT", "a: x = 0;", api.OK}, {"INVARIANT", "a: get = 2;", api.OK}, {"INVARIANT", "a: 1;", api.ErrType}, {"INVARIANT", "a: Result = 0;", api.ErrType}, {"INVARIANT", "a: old x = 0;", api.ErrType},
		{"INVARIANT", "a: i = 1;", api.ErrType}, {"INVARIANT", "a: attached Current as d; b: d.x = 0;", api.ErrType},
	} {
		call := "put c.f (1);"
		if x.where == "PENSURE" {
			call = "c.p (1); put 5;"
		}
		made := strings.ReplaceAll(text, " "+x.where+" ", " "+x.clause+" ")
		for _, name := range []string{"PENSURE", "REQUIRE", "ENSURE", "INVARIANT"} {
			made = strings.ReplaceAll(made, " "+name+" ", " ")
		}
		l := system(t, strings.ReplaceAll(made, "CALL", call))
		if x.err != api.OK {
			comesTo(t, l, x.err, 0)
		} else {
			comesTo(t, l, api.OK, 0, 5)
		}
	}
	// an old without its part, or with two, has no value that could be reckoned ahead
	for _, kids := range [][]api.Expr{nil, {integer(1), integer(1)}} {
		l := system(t, mainWith("do ensure a: True or old 1 = 1;", ""))
		featureOf(t, l, "MAIN", "make").Ensure[0].Expr.Kids[1].Kids[0].Kids = kids
		comesTo(t, l, api.ErrType, 0)
	}
}

// P7.2: what a run with an error comes to is no other thing than the error.
func TestWrongAlone(t *testing.T) {
	t.Parallel()
	l := system(t, body("put 1; put none;", ""))
	if m, err := mean.Run(l, "MAIN", "make", many); err != api.ErrType || !isZero(m) {
		t.Error(m, err)
	}
	for steps, want := range []api.Errno{api.ErrSteps, api.ErrSteps, api.ErrSteps, api.ErrSteps, api.ErrType, api.ErrType} {
		if _, err := mean.Run(l, "MAIN", "make", steps); err != want {
			t.Error(steps, err, want)
		}
	}
	l = system(t, mainWith("do put none; rescue put 1; retry;", "")) // a rescue clause does not take it
	comesTo(t, l, api.ErrType, 0)
	l = system(t, mainWith("local k: INTEGER do if k = 1 then retry; end; raise 1; rescue k := 1; retry;", "")) // the body that is begun again is no rescue clause
	comesTo(t, l, api.ErrType, 0)
	l = system(t, mainWith("do put 1; rescue put 1; retry;", ""))
	if _, err := mean.Run(l, "MAIN", "make", 1); err != api.ErrSteps {
		t.Error(err)
	}
}
