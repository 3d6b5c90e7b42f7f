package mean_test

import (
	"strings"
	"testing"

	"cosigner/api"
	"cosigner/mean"
)

// P7.2: the chapter's examples.
func TestExamples(t *testing.T) {
	t.Parallel()
	for _, x := range []struct {
		stmts string
		out   []int
		blame api.Blame
	}{
		{"create b.start; b.add (3); put b.count;", []int{3}, api.Blame{}},
		{"create b.start; b.add (0);", nil, api.Blame{Fault: api.FaPre, Side: api.SdClient, Class: "MAIN", Name: "make"}},
		{"create b.start; b.add (12);", nil, api.Blame{Fault: api.FaInv, Side: api.SdSupplier, Class: "BOX", Name: "add"}},
		{"put 7 // 0;", nil, api.Blame{Fault: api.FaZero, Side: api.SdOwn, Class: "MAIN", Name: "make"}},
	} {
		l := system(t, box+mainWith("local b: BOX do "+x.stmts, ""))
		comesTo(t, l, api.OK, x.blame.Fault, x.out...)
		if b, is, err := mean.Blame(l, "MAIN", "make", many); b != x.blame || is != (x.blame.Fault != 0) || err != api.OK {
			t.Error(x.stmts, b, is, err)
		}
	}
}

// P7.2: what statements do.
func TestStatements(t *testing.T) {
	t.Parallel()
	for _, x := range []struct {
		stmts string
		fault int
		out   []int
	}{
		{"", 0, nil},
		{"put 1; put -2; put True; put False;", 0, []int{1, -2, 1, 0}},
		{"put x; put t; put n; put m; x := 4; n := x + 1; put n; put x; t := True; put t;", 0, []int{0, 0, 0, 0, 5, 4, 1}},
		{"put y = Void; put o = Void; put f = Void; y := Current; put y = Void; put y = Current; put y /= Current;", 0, []int{1, 1, 1, 0, 1, 0}},
		{"if x = 0 then put 1; else put 2; end; if x = 1 then put 3; else put 4; end; if x = 1 then put 5; end;", 0, []int{1, 4}},
		{"from n := 3; until n = 0 loop put n; n := n - 1; end;", 0, []int{3, 2, 1}},
		{"from until True loop put 1; end;", 0, nil},
		{"from until x > 2 invariant_of; loop x := x + 1; end;", 0, nil},
		{"raise 0; put 1;", 100, nil},
		{"put 1; raise 99;", 199, []int{1}},
		{"check a: True; b: 1 = 1; end; put 1;", 0, []int{1}},
		{"check a: True; b: x = 1; c: 1 // 0 = 0; end;", api.FaCheck, nil},
		{"check a: 1 // x = 0; end;", api.FaZero, nil},
		{"check end; put 1;", 0, []int{1}},
		{"set (5); put x; put get; put plus (2, 3); get; plus (1, 2); x; n; y;", 0, []int{5, 5, 5}},
		{"Current.set (5); put Current.x; put Current.get; Current.get; Current.x;", 0, []int{5, 5}},
		{"create y.set (7); put x; put y.x; put y = Current; y.set (8); put y.x; put y.y = Void;", 0, []int{0, 7, 0, 8, 1}},
		{"create o.set (1); create f.set (2); put o.x; put o = f; create o.set (3); put o.x;", 0, []int{1, 0, 3}},
		{"create y.made; put y.x; y := y.twin_of; put y.x;", 0, []int{9, 9}},
		{"put result_of (3); put result_of (0);", 0, []int{6, 0}},
		{"create y.set (y.x);", api.FaVoid, nil},
		{"put attached y as z; y := Current; put attached y as z; put z = Current; put attached 3 as z; put z;", 0, []int{0, 1, 1, 1, 3}},
		{"put x < 1 and 2 > 1; put not True; put True implies False; put -x;", 0, []int{1, 0, 0, 0}},
		{"put y.x;", api.FaVoid, nil},
		{"y.set (1);", api.FaVoid, nil},
		{"put Void = y; put y = Void; put Void = Void; put Current = Void; put Void /= Current;", 0, []int{1, 1, 1, 0, 1}},
		{"put 1099511627776; put -1099511627776; put 1099511627776 + 1;", api.FaOver, []int{api.MaxNum, -api.MaxNum}},
	} {
		stmts := strings.ReplaceAll(x.stmts, "until x > 2 invariant_of; loop", "invariant low: x <= 3; up: x >= 0; until x > 2 variant 3 - x loop")
		l := system(t, mainWith("local n: INTEGER; m: BOOLEAN; o: MAIN; f: detachable MAIN do "+stmts,
			"x: INTEGER; t: BOOLEAN; y: detachable MAIN; set (i: INTEGER) do x := i; end get: INTEGER do Result := x; end plus (a: INTEGER; b: INTEGER): INTEGER do Result := a + b; end "+
				"made do set (9); end twin_of: MAIN do create Result.made; end result_of (i: INTEGER): INTEGER do if i > 0 then Result := i; Result := Result + Result; end; end"))
		comesTo(t, l, api.OK, x.fault, x.out...)
	}
}

// P7.2: each exception of loops, and when their assertions are looked at.
func TestLoops(t *testing.T) {
	t.Parallel()
	for _, x := range []struct {
		stmts string
		fault int
		out   []int
	}{
		{"from put 1; invariant a: x = 1; until x = 0 loop end;", api.FaLoop, []int{1}},
		{"from invariant a: x < 2; until False loop x := x + 1; put x; end;", api.FaLoop, []int{1, 2}},
		{"from invariant a: True; b: 1 // x = 0; until True loop end;", api.FaZero, nil},
		{"from until True variant -1 loop end;", api.FaVariant, nil},
		{"from until True variant 0 loop end; put 1;", 0, []int{1}},
		{"from until True variant 1099511627776 loop end; put 1;", 0, []int{1}},
		{"from until x = 3 variant 3 - x loop x := x + 1; put x; end;", 0, []int{1, 2, 3}},
		{"from until x = 4 variant 3 - x loop x := x + 1; put x; end;", api.FaVariant, []int{1, 2, 3, 4}},
		{"from until x = 4 variant 2 loop x := x + 1; put x; end;", api.FaVariant, []int{1}},
		{"from until x = 4 variant x loop x := x + 1; put x; end;", api.FaVariant, []int{1}},
		{"from invariant a: x = 1; until True variant -1 loop end;", api.FaLoop, nil},
		{"from until 1 // x = 0 variant -1 loop end;", api.FaVariant, nil},
		{"from invariant a: x < 1; until False variant 3 - x loop x := x + 1; end;", api.FaLoop, nil},
		{"from until 1 // (x - 1) = 5 variant 3 - x loop x := x + 5; end;", api.FaVariant, nil},
		{"from x := 7; until x = 0 loop x := x - 1; from until x % 3 = 0 loop x := x - 1; put x; end; end;", 0, []int{4, 3, 1, 0}},
	} {
		comesTo(t, system(t, body(x.stmts, "x: INTEGER;")), api.OK, x.fault, x.out...)
	}
}

// P7.2: expressions are reckoned from left to right, the target ahead of the arguments, and each is a step.
func TestOrder(t *testing.T) {
	t.Parallel()
	more := "n: INTEGER; next: INTEGER do n := n + 1; Result := n; put n; end at (i: INTEGER): MAIN do put 10 + i; Result := Current; end two (a: INTEGER; b: INTEGER): INTEGER do put 100 * a + b; end " +
		"void_at: detachable MAIN do put 50; end is (b: BOOLEAN; i: INTEGER): BOOLEAN do put i; Result := b; end"
	for _, x := range []struct {
		stmts string
		fault int
		out   []int
	}{
		{"put next - next;", 0, []int{1, 2, -1}},
		{"put at (1).two (next, next);", 0, []int{11, 1, 2, 102, 0}},
		{"put void_at.two (next, 1);", api.FaVoid, []int{50, 1}},
		{"put void_at.two (1 // 0, 1);", api.FaZero, []int{50}},
		{"put next = next;", 0, []int{1, 2, 0}},
		{"put is (False, 1) and is (True, 2);", 0, []int{1, 0}},
		{"put is (True, 1) and is (False, 2);", 0, []int{1, 2, 0}},
		{"put is (True, 1) or is (False, 2);", 0, []int{1, 1}},
		{"put is (False, 1) or is (True, 2);", 0, []int{1, 2, 1}},
		{"put is (False, 1) implies is (False, 2);", 0, []int{1, 1}},
		{"put is (True, 1) implies is (False, 2);", 0, []int{1, 2, 0}},
		{"put at (next).at (next).two (next, next);", 0, []int{1, 11, 2, 12, 3, 4, 304, 0}},
	} {
		comesTo(t, system(t, body(x.stmts, more)), api.OK, x.fault, x.out...)
	}
}

// P7.2: how many steps a run takes.
func TestSteps(t *testing.T) {
	t.Parallel()
	more := "n: INTEGER; y: detachable MAIN; f (i: INTEGER) do end g: INTEGER do Result := 1; end h (i: INTEGER) require a: i > 0; b: i > 1; do ensure c: n = old (n + 0); end z do end"
	for stmts, want := range map[string]int{
		"":                                 0,
		"put 1;":                           2,
		"put 1 + 2;":                       4,
		"n := 1;":                          2,
		"f (1);":                           3,
		"put g;":                           4,
		"Current.f (2 + 3);":               6,
		"create y.f (1 + 2);":              4,
		"create y.z;":                      1,
		"if True then put 1; else z; end;": 4,
		"from n := 1; until n > 2 loop n := n + 1; end;":                          2 + 1 + 3*3 + 2*4,
		"from invariant a: True; until n = 1 variant 1 - n loop n := n + 1; end;": 1 + 2 + 2*3 + 2*3 + 4,
		"check a: True; b: n = 0; end;":                                           5,
		"put True or False;":                                                      3,
		"put False or False;":                                                     4,
		"put not True;":                                                           3,
		"h (2);":                                                                  3 + 6 + 3 + 3,
		"put attached y as x;":                                                    3,
		"put attached Current as x; put x.n;":                                     6,
		"if n = 1 then put 1; end;":                                               4,
		"from until True loop end;":                                               2,
		"check end;":                                                              1,
		"n;":                                                                      2,
		"put Current = Current;":                                                  4,
		"put n = 0 implies n = 1;":                                                8,
		"from n := 0; invariant a: n >= 0; b: n < 3; until n = 2 variant 2 - n loop n := n + 1; end;": 2 + 1 + 3*6 + 3*3 + 3*3 + 2*4,
	} {
		l := system(t, body(stmts, more))
		m, err := mean.Run(l, "MAIN", "make", many)
		if err != api.OK || m.Fault != 0 || m.Steps != want {
			t.Errorf("%s: error %d, fault %d, %d steps, want %d", stmts, err, m.Fault, m.Steps, want)
		}
		if _, err := mean.Run(l, "MAIN", "make", want); err != api.OK {
			t.Error(stmts, err)
		}
		if want > 0 {
			if m, err := mean.Run(l, "MAIN", "make", want-1); err != api.ErrSteps || !isZero(m) {
				t.Error(stmts, err, m)
			}
		}
	}
}

// P7.2: assertions count as steps: groups up to the one that holds, the clauses of each up to the first one that is False; what old has within it counts ahead of the body.
func TestAssertionSteps(t *testing.T) {
	t.Parallel()
	l := system(t, `
deferred class A feature { ANY }
  f (i: INTEGER) deferred require a: i > 0; b: i > 1; ensure d: i >= old i; end
end
class MAIN inherit A; create make feature { ANY }
  make do f (1); end
  f (i: INTEGER) require c: i > 0; d: True; do put i; ensure e: False implies old (1 // 0) = 0; end
  two do f (2); end
  none do f (0); end
end`)
	for make, want := range map[string]api.Meant{
		// the call; the first group; the second one; old i, and the old that is not come to; the body; the clauses
		"two":  {Fault: api.FaZero, Steps: 3 + 6 + 1 + 3},
		"make": {Fault: api.FaZero, Steps: 3 + 6 + 4 + 1 + 3},
		"none": {Fault: api.FaPre, Steps: 3 + 3 + 3},
	} {
		if m, err := mean.Run(l, "MAIN", make, many); err != api.OK || !alike(m, want) {
			t.Error(make, m, err)
		}
	}
	featureOf(t, l, "MAIN", "f").Ensure[0].Expr.Kids[1].Kids[0].Kids[0].Kids[1].N = 1
	if m, err := mean.Run(l, "MAIN", "two", many); err != api.OK || !alike(m, api.Meant{Out: []int{2}, Steps: 3 + 6 + 1 + 3 + 2 + 3 + 2}) {
		t.Error(m, err)
	}
}

// P7.2: how many objects may be made.
func TestMade(t *testing.T) {
	t.Parallel()
	text := mainWith("local y: MAIN do from until n = LIMIT loop n := n + 1; create y.none; end; put n;", "n: INTEGER; none do end")
	comesTo(t, system(t, strings.ReplaceAll(text, "LIMIT", "199")), api.OK, 0, 199)
	l := system(t, strings.ReplaceAll(text, "LIMIT", "200"))
	comesTo(t, l, api.OK, api.FaFull)
	if b, is, _ := mean.Blame(l, "MAIN", "make", many); !is || b != (api.Blame{Fault: api.FaFull, Side: api.SdOwn, Class: "MAIN", Name: "make"}) {
		t.Error(b)
	}
	events, _ := mean.Events(l, "MAIN", "make", many)
	made := 0
	for _, e := range events {
		if e.Kind == api.EvMade {
			made++
		}
	}
	if made != api.MaxMade {
		t.Error(made)
	}
	// the arguments are reckoned ahead, and what is made remains counted
	comesTo(t, system(t, mainWith("local y: MAIN do from until n = 199 loop n := n + 1; create y.with (0); end; create y.with (1 // 0);", "n: INTEGER; with (i: INTEGER) do end")), api.OK, api.FaZero)
}

// P7.2: what x is becomes another one behind its creation alone.
func TestCreation(t *testing.T) {
	t.Parallel()
	more := "n: INTEGER; y: detachable MAIN; with (i: INTEGER) do n := i; end fails do raise 3; end sees (o: MAIN) do put o.y = Void; n := 2; end"
	for _, x := range []struct {
		head, stmts string
		fault       int
		out         []int
	}{
		{"do", "create y.sees (Current); put y = Void;", 0, []int{1, 0}},
		{"do", "create y.with (4); create y.with (y.n + 1); put y.n;", 0, []int{5}},
		{"local tries: INTEGER do", "if tries = 0 then create y.with (1); create y.fails; end; put y.n; rescue put y.n; tries := 1; retry;", 0, []int{1, 1}},
	} {
		comesTo(t, system(t, mainWith(x.head+" "+x.stmts, more)), api.OK, x.fault, x.out...)
	}
	// the invariant is looked at behind the procedure, ahead of the assignment
	l := system(t, "class LOW create with feature { ANY } n: INTEGER; with (i: INTEGER) do put i; n := i; end invariant low: n < 3; end "+
		mainWith("local x: LOW; tries: INTEGER do if tries = 0 then create x.with (2); create x.with (5); end; put x.n; rescue tries := 1; retry;", ""))
	comesTo(t, l, api.OK, 0, 2, 5, 2)
}

// P7.2: exceptions, rescue clauses and retry.
func TestRescue(t *testing.T) {
	t.Parallel()
	for _, x := range []struct {
		make, more string
		fault      int
		out        []int
	}{
		{"do raise 1; rescue put 1;", "", 101, []int{1}},
		{"do raise 1; rescue put 1; raise 2; put 3;", "", 102, []int{1}},
		{"do raise 1; rescue put 1 // 0;", "", api.FaZero, nil},
		{"do put 1; rescue put 2;", "", 0, []int{1}},
		{"local k: INTEGER do put k; if k < 2 then raise 1; end; put 9; rescue k := k + 1; retry; put 5;", "", 0, []int{0, 1, 2, 9}},
		{"local k: INTEGER do put k; raise 2; rescue k := k + 1; if k < 3 then from until True loop end; if True then retry; end; end; put 7;", "", 102, []int{0, 1, 2, 7}},
		{"do f; put 1; rescue put 2;", "f do raise 5; rescue put 3;  end", 105, []int{3, 2}},
		{"do put f; put 1;", "f: INTEGER do if Result < 3 then Result := Result + 1; raise 5; end; rescue retry; end", 0, []int{3, 1}},
		{"do f (0);", "f (i: INTEGER) require a: i > 0; do rescue put 1; end", api.FaPre, nil}, // the precondition is not within the body
		{"do f;", "x: INTEGER; f do x := 1; ensure a: x = 2; rescue put x; end", api.FaPost, []int{1}},
		{"do f; put x;", "x: INTEGER; f do x := x + 1; ensure a: x = 3; rescue if x < 3 then retry; end; end", 0, []int{3}},
		{"do f;", "x: INTEGER; f do x := x + 1; ensure a: x = old x + 2; rescue if x < 2 then retry; end; put 5; end", 0, nil}, // old is reckoned once
		{"do f;", "f do ensure a: old (1 // 0) = 0; rescue put 1; end", api.FaZero, nil},
		{"do f; rescue put 1;", "f do f; rescue put 2; raise 8; end", 108, func() []int {
			var out []int
			for range api.MaxFrames - 1 {
				out = append(out, 2)
			}
			return append(out, 1)
		}()},
		{"do f; rescue g; put 4;", "f do raise 1; end g do f; rescue put 3; end", 101, []int{3}},
		{"do f; rescue g; put 4;", "f do raise 1; end g local k: INTEGER do if k = 0 then raise 2; end; rescue k := 1; retry; end", 101, []int{4}},
		{"do Current.f (1); put 2;", "f (i: INTEGER) do put i; raise 1; end", 101, []int{1}},
	} {
		comesTo(t, system(t, mainWith(x.make, x.more)), api.OK, x.fault, x.out...)
	}
	// a clause that Rescues does not tell is none
	l := system(t, mainWith("do raise 1; rescue put 1; retry;", ""))
	featureOf(t, l, "MAIN", "make").Rescues = false
	comesTo(t, l, api.OK, 101)
}

// P7.14: a retry begins the body again.
func TestRetry(t *testing.T) {
	t.Parallel()
	for _, n := range []int{0, 1, 2, 7, 100} {
		l := system(t, strings.ReplaceAll(mainWith("do f; rescue", "f local k: INTEGER do raise 0; rescue k := k + 1; if k <= LIMIT then retry; end; end"), "LIMIT", string(appendInt(n))))
		comesTo(t, l, api.OK, api.FaOwn)
		tallies, err := mean.Tallies(l, "MAIN", "make", many)
		if want := []api.Tally{{Class: "MAIN", Name: "make", Times: 1}, {Class: "MAIN", Name: "f", Times: n + 1}}; err != api.OK || !alike(tallies, want) {
			t.Error(n, tallies, err)
		}
		raised, err := mean.Raised(l, "MAIN", "make", many)
		if err != api.OK || len(raised) != n+1 {
			t.Error(n, raised, err)
		}
	}
}

func appendInt(n int) []byte {
	if n < 10 {
		return []byte{byte('0' + n)}
	}
	return append(appendInt(n/10), byte('0'+n%10))
}

// R1: expressions and statements that are nested as deep as they may be, within calls that are, too.
func TestDeepNesting(t *testing.T) {
	t.Parallel()
	text := "class MAIN create make feature { ANY } f: MAIN do end g (x: MAIN): MAIN do end next: MAIN; make do next := f; end end"
	f := variable("f")
	for _, wrap := range []func(api.Expr) api.Expr{
		func(e api.Expr) api.Expr { return api.Expr{Kind: api.ExCall, Name: "g", Kids: []api.Expr{e}} },
		func(e api.Expr) api.Expr { return api.Expr{Kind: api.ExCall, N: 1, Name: "next", Kids: []api.Expr{e}} },
		func(e api.Expr) api.Expr { return binary("+", e, integer(1)) },
	} {
		l := system(t, text)
		e := f
		for range 65000 {
			e = wrap(e)
		}
		featureOf(t, l, "MAIN", "f").Body = []api.Stmt{{Kind: api.StAssign, Name: "Result", Exprs: []api.Expr{e}}}
		if m, err := mean.Run(l, "MAIN", "make", many); err != api.ErrSteps || !isZero(m) {
			t.Error(m, err)
		}
	}
	l := system(t, text)
	body := []api.Stmt{{Kind: api.StCall, Exprs: []api.Expr{f}}}
	for range 65000 {
		body = []api.Stmt{{Kind: api.StLoop, Init: body, Exprs: []api.Expr{{Kind: api.ExBool, N: 1}}}}
	}
	featureOf(t, l, "MAIN", "f").Body = body
	if m, err := mean.Run(l, "MAIN", "make", many); err != api.ErrSteps || !isZero(m) {
		t.Error(m, err)
	}
}
