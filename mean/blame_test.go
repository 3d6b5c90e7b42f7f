package mean_test

import (
	"slices"
	"strings"
	"testing"

	"cosigner/api"
	"cosigner/mean"
)

// blames checks all exceptions of a run from make of MAIN, and the one with which it ends (the last one that has its fault).
func blames(t *testing.T, text string, want ...api.Blame) {
	t.Helper()
	l := system(t, text)
	raised, err := mean.Raised(l, "MAIN", "make", many)
	if err != api.OK || !alike(raised, want) {
		t.Errorf("error %d, %v; want %v: %s", err, raised, want, text)
	}
	m, _ := mean.Run(l, "MAIN", "make", many)
	b, is, err := mean.Blame(l, "MAIN", "make", many)
	if err != api.OK || is != (m.Fault != 0) || b.Fault != m.Fault || !is && !isZero(b) {
		t.Error(b, is, err, m, text)
	}
	for _, w := range slices.Backward(want) {
		if w.Fault == m.Fault {
			if b != w {
				t.Error(b, w, text)
			}
			return
		}
	}
}

func client(fault int, routine string) api.Blame   { return blame(fault, api.SdClient, routine) }
func supplier(fault int, routine string) api.Blame { return blame(fault, api.SdSupplier, routine) }
func own(fault int, routine string) api.Blame      { return blame(fault, api.SdOwn, routine) }

// blame returns a blame of a routine that is told as CLASS.name.
func blame(fault, side int, routine string) api.Blame {
	class, name, _ := strings.Cut(routine, ".")
	return api.Blame{Fault: fault, Side: side, Class: class, Name: name}
}

// cellWith returns the text of a class CELL whose features have clauses in places of capital words.
func cellWith(places map[string]string) string {
	text := "class CELL create start feature { ANY } n: INTEGER; none: detachable CELL; is: BOOLEAN; start do is := True; end break do is := False; end fix do is := True; end " +
		"f (i: INTEGER) require PRE do BODY ensure POST end g: INTEGER require GPRE do GBODY ensure GPOST end self: CELL do Result := Current; end invariant INV end "
	for _, place := range []string{"GPRE", "GBODY", "GPOST", "PRE", "BODY", "POST", "INV"} {
		text = strings.ReplaceAll(text, " "+place+" ", " "+places[place]+" ")
	}
	return text
}

// P7.4: each exception at each place, and who is to blame.
func TestPlaces(t *testing.T) {
	t.Parallel()
	for place, x := range map[string]struct {
		side    int
		routine string
		fault   int
	}{
		"PRE":  {api.SdClient, "MAIN.make", api.FaPre},
		"POST": {api.SdSupplier, "CELL.f", api.FaPost},
		"OLD":  {api.SdClient, "MAIN.make", 0},
	} {
		for clause, fault := range map[string]int{"1 // n = 0": api.FaZero, "1099511627776 + 1 = n": api.FaOver, "none.n = 0": api.FaVoid, "False": x.fault} {
			name, text := place, "a: "+clause+";"
			if place == "OLD" {
				name, text = "POST", "a: True; b: old ("+clause+");"
			}
			if place == "OLD" && clause == "False" {
				fault, x.side, x.routine = api.FaPost, api.SdSupplier, "CELL.f"
			}
			want := blame(fault, x.side, x.routine)
			if place == "OLD" && clause != "False" {
				want = client(fault, "MAIN.make")
			}
			for _, call := range []string{"c.f (1);", "if True then c.f (1); end;"} {
				blames(t, cellWith(map[string]string{name: text})+mainWith("local c: CELL do create c.start; "+call, ""), want)
			}
		}
	}
	for clause, fault := range map[string]int{"1 // n = 0": api.FaZero, "1099511627776 + 1 = n": api.FaOver, "none.n = 0": api.FaVoid, "False": -1} {
		at := func(own int) int {
			if fault < 0 {
				return own
			}
			return fault
		}
		stmts := map[string]api.Blame{
			"check a: " + clause + "; end;":                                                own(at(api.FaCheck), "CELL.f"),
			"from invariant a: " + clause + "; until True loop end;":                       own(at(api.FaLoop), "CELL.f"),
			"from invariant a: n = 0 or " + clause + "; until n > 1 loop n := 0 + 1; end;": own(at(api.FaLoop), "CELL.f"),
		}
		for stmt, want := range stmts {
			if clause == "1 // n = 0" && strings.Contains(stmt, "or ") {
				want = own(api.FaLoop, "CELL.f") // n is 1 then
			}
			blames(t, cellWith(map[string]string{"BODY": stmt})+mainWith("local c: CELL do create c.start; c.f (1);", ""), want)
		}
	}
	for stmt, want := range map[string]int{
		"from until True variant -1 loop end;": api.FaVariant, "from until False variant 1 loop end;": api.FaVariant, "from until True variant 1 // n loop end;": api.FaZero,
		"raise 7;": 107, "put none.n;": api.FaVoid, "none.f (1);": api.FaVoid, "n := 1099511627776 * 2;": api.FaOver, "put 1 % n;": api.FaZero, "if 1 // n = 0 then end;": api.FaZero,
		"f (1 // 0);": api.FaZero, "Current.f (1 // 0);": api.FaZero,
	} {
		blames(t, cellWith(map[string]string{"BODY": stmt})+mainWith("local c: CELL do create c.start; c.f (1);", ""), own(want, "CELL.f"))
	}
}

// P7.4: invariants ahead of calls and behind them, and behind creations.
func TestBlameOfInvariants(t *testing.T) {
	t.Parallel()
	for clause, fault := range map[string]int{"is": api.FaInv, "is or 1 // n = 0": api.FaZero, "is or none.is": api.FaVoid, "is or 1099511627776 + 1 = 0": api.FaOver} {
		cell := cellWith(map[string]string{"INV": "a: " + clause + ";", "BODY": "is := i = 1;", "GBODY": "is := False; Result := 5;"})
		for _, x := range []struct {
			make string
			want []api.Blame
		}{
			{"create c.start; c.f (1);", nil},
			{"create c.break;", []api.Blame{supplier(fault, "CELL.break")}},
			{"create c.start; c.f (2);", []api.Blame{supplier(fault, "CELL.f")}},
			{"create c.start; put c.g;", []api.Blame{supplier(fault, "CELL.g")}},
			{"create c.start; c.g;", []api.Blame{supplier(fault, "CELL.g")}},
		} {
			blames(t, cell+mainWith("local c: CELL do "+x.make, ""), x.want...)
		}
		// ahead of a call it is the client's, and what is called without a target, or of the client itself, has none
		for call, routine := range map[string]string{"c.f (1);": "MAIN.make", "put c.n;": "MAIN.make", "c.n;": "MAIN.make", "put c.g;": "MAIN.make", "use (c);": "MAIN.use", "put c.self.n;": "MAIN.make"} {
			text := cell + mainWith("local c: CELL; k: INTEGER do if k = 0 then create c.start; c.break; end; if k = 1 then "+call+" end; rescue k := k + 1; if k = 1 then retry; end;", "use (c: CELL) do c.fix; end ")
			blames(t, text, supplier(fault, "CELL.break"), client(fault, routine))
		}
		// an attribute's call is the client's also behind it: the invariant breaks itself
		text := "class ODD create start feature { ANY } n: INTEGER; k: INTEGER; start do end next: BOOLEAN do k := k + 1; Result := k /= LIMIT; end invariant a: next; end " + mainWith("local c: ODD do create c.start; put c.n; put c.k;", "")
		blames(t, strings.ReplaceAll(text, "LIMIT", "2"), client(api.FaInv, "MAIN.make"))
		blames(t, strings.ReplaceAll(text, "LIMIT", "3"), client(api.FaInv, "MAIN.make"))
		blames(t, strings.ReplaceAll(text, "LIMIT", "1"), supplier(api.FaInv, "ODD.start"))
		comesTo(t, system(t, strings.ReplaceAll(text, "LIMIT", "9")), api.OK, 0, 0, 4)
	}
}

// P7.4: what is called within assertions, and who calls it.
func TestBlameWithin(t *testing.T) {
	t.Parallel()
	for _, x := range []struct {
		name   string
		places map[string]string
		make   string
		want   api.Blame
	}{
		// what the body of a routine does that is called within an assertion is its own
		{"pre", map[string]string{"PRE": "a: g = 0;", "GBODY": "raise 1;"}, "c.f (1);", own(101, "CELL.g")},
		{"post", map[string]string{"POST": "a: g = 0;", "GBODY": "raise 1;"}, "c.f (1);", own(101, "CELL.g")},
		{"old", map[string]string{"POST": "a: old g = 0;", "GBODY": "raise 1;"}, "c.f (1);", own(101, "CELL.g")},
		{"inv", map[string]string{"INV": "a: g = 0;", "GBODY": "raise 1;"}, "", own(101, "CELL.g")},
		{"check", map[string]string{"BODY": "check a: g = 0; end;", "GBODY": "raise 1;"}, "c.f (1);", own(101, "CELL.g")},
		// what is called within an assertion of a routine is called by this routine
		{"pre", map[string]string{"PRE": "a: g = 0;", "GPRE": "b: False;"}, "c.f (1);", client(api.FaPre, "CELL.f")},
		{"post", map[string]string{"POST": "a: g = 0;", "GPRE": "b: False;"}, "c.f (1);", client(api.FaPre, "CELL.f")},
		{"old", map[string]string{"POST": "a: old g = 0;", "GPRE": "b: False;"}, "c.f (1);", client(api.FaPre, "CELL.f")},
		{"check", map[string]string{"BODY": "check a: g = 0; end;", "GPRE": "b: False;"}, "c.f (1);", client(api.FaPre, "CELL.f")},
		{"pre", map[string]string{"PRE": "a: g = 0;", "GPOST": "b: False;"}, "c.f (1);", supplier(api.FaPost, "CELL.g")},
		{"post", map[string]string{"POST": "a: g = 0;", "GPOST": "b: 1 // n = 0;"}, "c.f (1);", supplier(api.FaZero, "CELL.g")},
		{"pre", map[string]string{"PRE": "a: g = 0;", "GPOST": "b: old (1 // n) = 0;"}, "c.f (1);", client(api.FaZero, "CELL.f")},
		// what is called within an invariant is called by the one who would be to blame for it
		{"inv behind", map[string]string{"INV": "a: g = 0;", "GPRE": "b: n = 0;", "BODY": "n := 1;"}, "c.f (1);", client(api.FaPre, "CELL.f")},
		{"inv behind", map[string]string{"INV": "a: g = 0;", "GPRE": "b: 1 // (n - 1) = -1;", "BODY": "n := 1;"}, "c.f (1);", client(api.FaZero, "CELL.f")},
		{"inv behind creation", map[string]string{"INV": "a: g = 0;", "GPRE": "b: False;"}, "", client(api.FaPre, "CELL.start")},
		{"inv behind, post", map[string]string{"INV": "a: g = 0;", "GPOST": "b: n = 0;", "BODY": "n := 1;"}, "c.f (1);", supplier(api.FaPost, "CELL.g")},
		// in an assertion the arguments are reckoned as all within it
		{"pre", map[string]string{"PRE": "a: attached self as s and s.self.none.is;"}, "c.f (1);", client(api.FaVoid, "MAIN.make")},
	} {
		blames(t, cellWith(x.places)+mainWith("local c: CELL do create c.start; "+x.make, ""), x.want)
	}
	// invariants of other objects within assertions: the innermost one counts
	outer := "class OUTER create start feature { ANY } c: CELL; start (x: CELL) do c := x; end f require a: PRE; do ensure b: POST; end poke do c.break; end mend (x: CELL) do c := x; end invariant i: INV; end "
	for _, x := range []struct {
		place, clause string
		want          api.Blame
	}{
		{"PRE", "c.n = 0", client(api.FaInv, "OUTER.f")},
		{"POST", "c.n = 0", client(api.FaInv, "OUTER.f")},
		{"POST", "old c.n = 0", client(api.FaInv, "OUTER.f")},
		{"INV", "c.n = 0", supplier(0, "")},
	} {
		text := outer
		for _, place := range []string{"PRE", "POST", "INV"} {
			clause := "True"
			if place == x.place {
				clause = x.clause
			}
			text = strings.ReplaceAll(text, " "+place+";", " "+clause+";")
		}
		main := mainWith("local c: CELL; o: OUTER; k: INTEGER do if k = 0 then create c.start; create o.start (c); k := 1; c.break; end; o.f; rescue if k = 1 then k := 2; retry; end;", "")
		want := []api.Blame{supplier(api.FaInv, "CELL.break"), x.want}
		if x.place == "INV" {
			want[1] = client(api.FaInv, "MAIN.make") // of OUTER's invariant ahead of f the client is to blame, and calls within
		}
		blames(t, cellWith(map[string]string{"INV": "a: is;"})+text+main, want...)
	}
	// behind a call the routine that was called is the client of what the invariant calls
	text := strings.ReplaceAll(strings.ReplaceAll(strings.ReplaceAll(outer, " PRE;", " True;"), " POST;", " True;"), " INV;", " c.n = 0;")
	text = strings.ReplaceAll(text, "poke do c.break; end", "poke local k: INTEGER do if k = 0 then c.break; end; rescue k := 1; retry; end")
	blames(t, cellWith(map[string]string{"INV": "a: is;"})+text+mainWith("local c: CELL; o: OUTER do create c.start; create o.start (c); o.poke;", ""), supplier(api.FaInv, "CELL.break"), client(api.FaInv, "OUTER.poke"))
}

// P7.4: of what is deep the one who called is to blame.
func TestBlameOfDepth(t *testing.T) {
	t.Parallel()
	for _, x := range []struct {
		features string
		want     api.Blame
	}{
		{"make do make; end", client(api.FaDeep, "MAIN.make")},
		{"make do f; end f do g; end g do f; end", client(api.FaDeep, "MAIN.f")}, // make, 31 times f and g, f
		{"make do f; end f do x; g; end g do h; end h do f; end x do end", client(api.FaDeep, "MAIN.h")},
		{"make do f; end f require a: g = 0; do f; end g: INTEGER do end", client(api.FaDeep, "MAIN.f")},
		{"make do f; end f do f; ensure a: g = 0; end g: INTEGER do end", client(api.FaDeep, "MAIN.f")},
		{"make do f; end f do f; ensure a: old g = 0; end g: INTEGER do end", client(api.FaDeep, "MAIN.f")},
		{"make do f; end f do Current.f; end invariant a: True;", client(api.FaDeep, "MAIN.f")},
		{"make do f; end f do Current.f; end invariant a: g = 0;", client(api.FaDeep, "MAIN.f")},
		{"make do f; end f require a: Current.g = 0; do f; end g: INTEGER do end invariant a: True;", client(api.FaDeep, "MAIN.f")},
		{"n: INTEGER; make do f (62); end f (i: INTEGER) do if i > 0 then f (i - 1); end; put Current.n; end invariant a: True;", client(api.FaDeep, "MAIN.f")},
		{"n: INTEGER; make do f (62); end f (i: INTEGER) do if i > 0 then f (i - 1); end; ensure a: i > 0 or Current.n = 0; end invariant a: True;", client(api.FaDeep, "MAIN.f")},
		{"n: INTEGER; make do end invariant a: Current.n = 0;", client(api.FaDeep, "MAIN.make")},
		{"make do end g: INTEGER do Result := g; end invariant a: g = 0;", client(api.FaDeep, "MAIN.g")},
		{"y: detachable MAIN; make do create y.make; end", client(api.FaDeep, "MAIN.make")},
	} {
		features, invariant, _ := strings.Cut(x.features, "invariant")
		if invariant != "" {
			invariant = "invariant" + invariant
		}
		text := "class MAIN create make feature { ANY } " + features + " g_there: INTEGER; " + invariant + " end"
		if strings.Contains(x.features, "a: g = 0;") && !strings.Contains(x.features, "g:") {
			text = strings.ReplaceAll(text, "g_there", "g")
		}
		blames(t, text, x.want)
	}
}

// P7.4: the one who begins a run, and the routine whose body a redefined or renamed feature has.
func TestRoutines(t *testing.T) {
	t.Parallel()
	blames(t, mainWith("require a: False; do", ""), client(api.FaPre, ""))
	blames(t, mainWith("require a: 1 // 0 = 0; do", ""), client(api.FaZero, ""))
	blames(t, mainWith("do ensure a: old (1 // 0) = 0;", ""), client(api.FaZero, ""))
	blames(t, mainWith("do ensure a: False;", ""), supplier(api.FaPost, "MAIN.make"))
	blames(t, mainWith("do put 1 // 0;", ""), own(api.FaZero, "MAIN.make"))
	blames(t, mainWith("require a: p; do", "p: BOOLEAN require b: False; do end "), client(api.FaPre, "MAIN.make"))
	blames(t, "class MAIN create make feature { ANY } n: INTEGER; make do end invariant a: n = 1; end", supplier(api.FaInv, "MAIN.make"))
	blames(t, "class MAIN create make feature { ANY } n: INTEGER; make do end invariant a: 1 // n = 1; end", supplier(api.FaZero, "MAIN.make"))
	family := "class P feature { ANY } a require no: False; do end b do raise 1; end c do a; end d do end end class Q inherit P rename b as bee, d as dee redefine dee; feature { ANY } dee do raise 2; end go do a; end end class MAIN inherit Q; create make feature { ANY } make do "
	for stmts, want := range map[string]api.Blame{
		"bee;": own(101, "P.b"), "dee;": own(102, "Q.dee"), "go;": client(api.FaPre, "Q.go"), "c;": client(api.FaPre, "P.c"), "a;": client(api.FaPre, "MAIN.make"), "Current.a;": client(api.FaPre, "MAIN.make"),
	} {
		blames(t, family+stmts+" end end", want)
	}
}

// P7.4: exceptions happen once, also where they lead out of routines, and those that are rescued are told.
func TestRaised(t *testing.T) {
	t.Parallel()
	for _, x := range []struct {
		make, more string
		want       []api.Blame
	}{
		{"do f; rescue put 1;", "f do g; rescue put 2; end g do raise 3; end ", []api.Blame{own(103, "MAIN.g")}},
		{"do f; rescue put 1 // 0;", "f do raise 3; end ", []api.Blame{own(103, "MAIN.f"), own(api.FaZero, "MAIN.make")}},
		{"do f; put 1;", "f local k: INTEGER do if k < 3 then raise 5; end; rescue k := k + 1; if k = 2 then g; end; retry; end g local k: INTEGER do if k = 0 then raise 6; end; rescue k := 1; retry; end ",
			[]api.Blame{own(105, "MAIN.f"), own(105, "MAIN.f"), own(106, "MAIN.g"), own(105, "MAIN.f")}},
		// it ends with the exception that led to the rescue clause, not with the last one that happened
		{"do f; rescue g;", "f do raise 1; end g local k: INTEGER do if k = 0 then raise 2; end; rescue k := 1; retry; end ", []api.Blame{own(101, "MAIN.f"), own(102, "MAIN.g")}},
		{"do f (1); rescue f (0);", "f (i: INTEGER) require a: i = 0; do raise 1; end ", []api.Blame{client(api.FaPre, "MAIN.make"), own(101, "MAIN.f")}},
		{"do put 1;", "", nil},
	} {
		blames(t, mainWith(x.make, x.more), x.want...)
	}
	// a group that does not hold is no exception, if another one does
	blames(t, "class A feature { ANY } f (i: INTEGER) require a: i > 0; b: 1 // (i - 2) > 0; do end end class MAIN inherit A redefine f; create make feature { ANY } f (i: INTEGER) require c: i < 0; do end make do f (3); f (-1); f (0); end end",
		client(api.FaPre, "MAIN.make"))
	blames(t, "class A feature { ANY } f (i: INTEGER) require a: i > 0; b: 1 // (i - 2) > 0; do end end class MAIN inherit A redefine f; create make feature { ANY } f (i: INTEGER) require c: True; do end make do f (2); end end",
		client(api.FaZero, "MAIN.make"))
}

// P7.4: how many exceptions are told.
func TestRaisedLimit(t *testing.T) {
	t.Parallel()
	text := mainWith("do f; put 1;", "n: INTEGER; f do n := n + 1; if n <= LIMIT then raise 1; end; rescue retry; end")
	l := system(t, strings.ReplaceAll(text, "LIMIT", "5000"))
	raised, err := mean.Raised(l, "MAIN", "make", many)
	if err != api.OK || len(raised) != 5000 {
		t.Error(len(raised), err)
	}
	for limit, wrong := range map[string]string{"5001": "", "5003": "", "9000": "none"} {
		l := system(t, strings.ReplaceAll(strings.ReplaceAll(text, "LIMIT", limit), "put 1;", "put 1; "+map[bool]string{true: "none;"}[wrong != ""]))
		want := api.ErrLimit
		if wrong != "" {
			want = api.ErrType // ErrLimit is the last error
		}
		if raised, err := mean.Raised(l, "MAIN", "make", many); err != want || raised != nil {
			t.Error(limit, len(raised), err)
		}
		if _, err := mean.Raised(l, "MAIN", "make", 30000); err != api.ErrSteps {
			t.Error(limit, err)
		}
		if _, is, err := mean.Blame(l, "MAIN", "make", many); is || err != api.OK && wrong == "" {
			t.Error(limit, is, err)
		}
	}
}
