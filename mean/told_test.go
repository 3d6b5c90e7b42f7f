package mean_test

import (
	"slices"
	"strings"
	"testing"

	"cosigner/api"
	"cosigner/mean"
)

// eventsOf returns events of texts: "made CLASS", "call CLASS.name", "put N" and "back N" (of the last call that is open), with N in one letter from 0 on.
func eventsOf(texts ...string) []api.Event {
	var out, open []api.Event
	made := 0
	for _, text := range texts {
		word, rest, _ := strings.Cut(text, " ")
		class, name, _ := strings.Cut(rest, ".")
		switch word {
		case "made":
			out = append(out, api.Event{Kind: api.EvMade, Class: rest, N: made})
			made++
		case "call":
			e := api.Event{Kind: api.EvCall, Class: class, Name: name}
			out, open = append(out, e), append(open, e)
		case "back":
			e := open[len(open)-1]
			open = open[:len(open)-1]
			e.Kind, e.N = api.EvBack, numberOf(rest)
			out = append(out, e)
		case "put":
			out = append(out, api.Event{Kind: api.EvPut, N: numberOf(rest)})
		}
	}
	return out
}

func numberOf(text string) int {
	n := 0
	for _, b := range []byte(strings.TrimPrefix(text, "-")) {
		n = 10*n + int(b-'0')
	}
	if strings.HasPrefix(text, "-") {
		return -n
	}
	return n
}

// P7.3: what happens, in order.
func TestEvents(t *testing.T) {
	t.Parallel()
	for _, x := range []struct {
		text string
		want []string
	}{
		{box + mainWith("local b: BOX do create b.start; put b.count;", ""), []string{"made MAIN", "call MAIN.make", "made BOX", "call BOX.start", "back 0", "put 0", "back 0"}},
		{box + mainWith("local b: BOX do create b.start; b.add (12); put 1;", ""), []string{"made MAIN", "call MAIN.make", "made BOX", "call BOX.start", "back 0", "call BOX.add", "back 0", "back 3"}},
		{box + mainWith("local b: BOX do create b.start; b.add (0);", ""), []string{"made MAIN", "call MAIN.make", "made BOX", "call BOX.start", "back 0", "call BOX.add", "back 1", "back 1"}},
		{body("put 1; put -2; put True;", ""), []string{"made MAIN", "call MAIN.make", "put 1", "put -2", "put 1", "back 0"}},
		{mainWith("require a: False; do put 1;", ""), []string{"made MAIN", "call MAIN.make", "back 1"}},
		{mainWith("do put 1; ensure a: False;", ""), []string{"made MAIN", "call MAIN.make", "put 1", "back 2"}},
		{"class MAIN create make feature { ANY } make do put 1; end f: BOOLEAN do end invariant a: f; end", []string{"made MAIN", "call MAIN.make", "put 1", "back 0", "call MAIN.f", "back 0"}},
		{mainWith("require a: f; do put 1; ensure b: old f; c: f;", "f: BOOLEAN do put 2; Result := True; end"),
			[]string{"made MAIN", "call MAIN.make", "call MAIN.f", "put 2", "back 0", "call MAIN.f", "put 2", "back 0", "put 1", "call MAIN.f", "put 2", "back 0", "back 0"}},
		{mainWith("do f; rescue put 3; f;", "f do raise 7; end"), []string{"made MAIN", "call MAIN.make", "call MAIN.f", "back 107", "put 3", "call MAIN.f", "back 107", "back 107"}},
		{mainWith("local k: INTEGER do k := k + 1; if k < 3 then raise 7; end; rescue put k; retry;", ""), []string{"made MAIN", "call MAIN.make", "put 1", "put 2", "back 0"}},
		{mainWith("local y: MAIN do if n = 0 then create y.f; create y.f; put y.n; end;", "n: INTEGER; f do n := 4; end"), []string{"made MAIN", "call MAIN.make", "made MAIN", "call MAIN.f", "back 0", "made MAIN", "call MAIN.f", "back 0", "put 4", "back 0"}},
		{"class P feature { ANY } a do end end class MAIN inherit P rename a as b; create make feature { ANY } make do b; end end", []string{"made MAIN", "call MAIN.make", "call P.a", "back 0", "back 0"}},
	} {
		l := system(t, x.text)
		events, err := mean.Events(l, "MAIN", "make", many)
		if err != api.OK || !alike(events, eventsOf(x.want...)) {
			t.Error(events, err, x.text)
		}
		if err := mean.CheckEvents(l, events); err != api.OK {
			t.Error(err, x.text)
		}
		apart(t, events)
	}
	// of a call that is too deep nothing is told
	l := system(t, body("make;", ""))
	events, err := mean.Events(l, "MAIN", "make", many)
	want := slices.Concat([]string{"made MAIN"}, slices.Repeat([]string{"call MAIN.make"}, api.MaxFrames), slices.Repeat([]string{"back 9"}, api.MaxFrames))
	if err != api.OK || !alike(events, eventsOf(want...)) {
		t.Error(events, err)
	}
}

// P7.3: how many events are told.
func TestEventLimit(t *testing.T) {
	t.Parallel()
	for rounds, want := range map[string]api.Errno{"4997": api.OK, "4998": api.ErrLimit, "5500": api.ErrLimit} {
		for end, wrong := range map[string]api.Errno{"": api.OK, "none;": api.ErrType} {
			l := system(t, body("from until n = "+rounds+" loop n := n + 1; put n; end; "+end, "n: INTEGER;"))
			events, err := mean.Events(l, "MAIN", "make", many)
			switch {
			case wrong != api.OK:
				if err != wrong || events != nil { // ErrLimit is the last error
					t.Error(rounds, err)
				}
			case err != want || err == api.OK && len(events) != 5000 || err != api.OK && events != nil:
				t.Error(rounds, len(events), err)
			}
			if m, err := mean.Run(l, "MAIN", "make", many); err != wrong || err == api.OK && len(m.Out) != numberOf(rounds) {
				t.Error(rounds, len(m.Out), err)
			}
			if _, err := mean.Events(l, "MAIN", "make", 5000); err != api.ErrSteps {
				t.Error(err)
			}
		}
	}
	// calls are two events at least
	for rounds, want := range map[string]api.Errno{"2498": api.OK, "2499": api.ErrLimit} {
		l := system(t, body("from until n = "+rounds+" loop n := n + 1; f; end; ", "n: INTEGER; f do end"))
		if events, err := mean.Events(l, "MAIN", "make", many); err != want || err == api.OK && len(events) != 4999 {
			t.Error(rounds, len(events), err)
		}
	}
}

// P7.8: events that can be those of a whole run, and such that cannot.
func TestCheckEvents(t *testing.T) {
	t.Parallel()
	l := system(t, "class MAIN create make feature { ANY } make do end f: INTEGER do end n: INTEGER; end deferred class D feature { ANY } low deferred end high do end end class E create make feature { ANY } make do end end")
	good := eventsOf("made MAIN", "call MAIN.make", "made E", "call E.make", "put 7", "back 0", "call MAIN.f", "call D.high", "back 101", "back 13", "put -3", "back 0")
	change := func(at int, how func(*api.Event)) []api.Event {
		events := slices.Clone(good)
		how(&events[at])
		return events
	}
	deep := func(n int) []api.Event {
		return eventsOf(slices.Concat([]string{"made MAIN"}, slices.Repeat([]string{"call MAIN.make"}, n), slices.Repeat([]string{"back 0"}, n))...)
	}
	puts := func(n int) []api.Event {
		return eventsOf(append([]string{"made MAIN"}, slices.Repeat([]string{"put 1"}, n-1)...)...)
	}
	for i, x := range []struct {
		events []api.Event
		want   api.Errno
	}{
		{good, api.OK},
		{good[:1], api.OK},
		{good[:2], api.ErrProof},
		{nil, api.ErrProof},
		{good[:len(good)-1], api.ErrProof},
		{good[1:], api.ErrProof},
		{append(slices.Clone(good), good[len(good)-1]), api.ErrProof},
		{append(slices.Clone(good), good[1]), api.ErrProof},
		{append(slices.Clone(good), api.Event{Kind: api.EvPut}), api.OK},
		{append(slices.Clone(good), api.Event{}), api.ErrProof},
		{append(slices.Clone(good), api.Event{Kind: 5}), api.ErrProof},
		{append([]api.Event{{Kind: api.EvPut}}, good...), api.ErrProof},
		{deep(api.MaxFrames), api.OK},
		{deep(api.MaxFrames + 1), api.ErrProof},
		{puts(5000), api.OK},
		{puts(5001), api.ErrLimit},
		{append(puts(5000), api.Event{}), api.ErrLimit},
		{eventsOf("made MAIN", "call MAIN.make", "back 0", "call MAIN.f", "back 0"), api.OK},
		// EvMade
		{change(0, func(e *api.Event) { e.Class = "E" }), api.OK},
		{change(0, func(e *api.Event) { e.Class = "D" }), api.ErrProof},
		{change(0, func(e *api.Event) { e.Class = "NONE" }), api.ErrProof},
		{change(0, func(e *api.Event) { e.Class = "" }), api.ErrProof},
		{change(0, func(e *api.Event) { e.Name = "make" }), api.ErrProof},
		{change(0, func(e *api.Event) { e.N = 1 }), api.ErrProof},
		{change(2, func(e *api.Event) { e.N = 0 }), api.ErrProof},
		{change(2, func(e *api.Event) { e.N = 2 }), api.ErrProof},
		{change(2, func(e *api.Event) { e.N = -1 }), api.ErrProof},
		{change(2, func(e *api.Event) { e.Class = "MAIN" }), api.OK},
		// EvCall
		{change(1, func(e *api.Event) { e.Name = "f" }), api.ErrProof}, // its EvBack names another one
		{change(1, func(e *api.Event) { e.N = 1 }), api.ErrProof},
		{change(7, func(e *api.Event) { e.Name = "low" }), api.ErrProof},
		{eventsOf("made MAIN", "call D.low", "back 0"), api.ErrProof},
		{eventsOf("made MAIN", "call D.high", "back 0"), api.OK},
		{eventsOf("made MAIN", "call MAIN.n", "back 0"), api.ErrProof},
		{eventsOf("made MAIN", "call MAIN.none", "back 0"), api.ErrProof},
		{eventsOf("made MAIN", "call NONE.make", "back 0"), api.ErrProof},
		{eventsOf("made MAIN", "call E.f", "back 0"), api.ErrProof},
		// EvBack
		{change(5, func(e *api.Event) { e.Name = "f" }), api.ErrProof},
		{change(5, func(e *api.Event) { e.Class = "MAIN" }), api.ErrProof},
		{change(5, func(e *api.Event) { e.N = 1 }), api.OK},
		{change(5, func(e *api.Event) { e.N = 13 }), api.OK},
		{change(5, func(e *api.Event) { e.N = 14 }), api.ErrProof},
		{change(5, func(e *api.Event) { e.N = 99 }), api.ErrProof},
		{change(5, func(e *api.Event) { e.N = 100 }), api.OK},
		{change(5, func(e *api.Event) { e.N = 199 }), api.OK},
		{change(5, func(e *api.Event) { e.N = 200 }), api.ErrProof},
		{change(5, func(e *api.Event) { e.N = -1 }), api.ErrProof},
		{change(5, func(e *api.Event) { e.Kind = api.EvCall }), api.ErrProof},
		// EvPut
		{change(4, func(e *api.Event) { e.N = api.MaxNum }), api.OK},
		{change(4, func(e *api.Event) { e.N = -api.MaxNum }), api.OK},
		{change(4, func(e *api.Event) { e.N = api.MaxNum + 1 }), api.ErrProof},
		{change(4, func(e *api.Event) { e.N = -api.MaxNum - 1 }), api.ErrProof},
		{change(4, func(e *api.Event) { e.N = -1 << 63 }), api.ErrProof},
		{change(4, func(e *api.Event) { e.Class = "MAIN" }), api.ErrProof},
		{change(4, func(e *api.Event) { e.Name = "f" }), api.ErrProof},
	} {
		if err := mean.CheckEvents(l, x.events); err != x.want {
			t.Errorf("%d: error %d, want %d: %v", i, err, x.want, x.events)
		}
	}
	clash := append(copied(l), api.Class{Name: "Z", Parents: []api.Parent{{Name: "MAIN", Undefine: []string{"n"}}}})
	if err := mean.CheckEvents(clash, puts(5001)); err != api.ErrClash {
		t.Error(err)
	}
	if err := mean.CheckEvents([]api.Class{{Name: "x"}}, nil); err != api.ErrName {
		t.Error(err)
	}
	if err := mean.CheckEvents(nil, good); err != api.ErrProof {
		t.Error(err)
	}
}

// P7.5: how often bodies are begun, in the order of classes and declarations.
func TestTallies(t *testing.T) {
	t.Parallel()
	l := system(t, "class Z inherit A; create make feature { ANY } make do a; a; b; end end class A feature { ANY } b do put c; end c: INTEGER do end a do if d then end; end d: BOOLEAN do end e do end end "+
		mainWith("local z: Z; k: INTEGER do if k = 0 then create z.make; f (1); else f (0); end; rescue k := k + 1; if k = 1 then retry; end;", "f (i: INTEGER) require some: i = 0; do n := old_n; ensure none: n = 1; end n: INTEGER; old_n: INTEGER; g do end"))
	tallies, err := mean.Tallies(l, "MAIN", "make", many)
	want := []api.Tally{{Class: "Z", Name: "make", Times: 1}, {Class: "A", Name: "b", Times: 1}, {Class: "A", Name: "c", Times: 1}, {Class: "A", Name: "a", Times: 2}, {Class: "A", Name: "d", Times: 2}, {Class: "MAIN", Name: "make", Times: 2}, {Class: "MAIN", Name: "f", Times: 1}}
	if err != api.OK || !alike(tallies, want) {
		t.Error(tallies, err)
	}
	for make, want := range map[string][]api.Tally{
		"require a: False; do":         nil, // a body that is not begun
		"do ensure a: old (1 // 0)=0;": nil,
		"do ensure a: False;":          {{Class: "MAIN", Name: "make", Times: 1}},
		"do make;":                     {{Class: "MAIN", Name: "make", Times: api.MaxFrames}},
	} {
		if tallies, err := mean.Tallies(system(t, mainWith(make, "")), "MAIN", "make", many); err != api.OK || !alike(tallies, want) {
			t.Error(make, tallies, err)
		}
	}
}

// P7.5: how deep calls are.
func TestDepth(t *testing.T) {
	t.Parallel()
	for _, x := range []struct {
		features string
		want     int
		fault    int
	}{
		{"make do end", 1, 0},
		{"make do f; f; end f do end", 2, 0},
		{"make do f; end f do g; end", 3, 0},
		{"make do put n; put Current.n; end n: INTEGER;", 1, 0},
		{"make do end invariant a: True;", 1, 0},
		{"make do put Current.n; end n: INTEGER; invariant a: True;", 2, 0},
		{"make do end n: INTEGER; invariant a: g = 0;", 2, 0},
		{"make require a: g = 0; do end", 2, 0}, // the routine is under way while its preconditions are reckoned
		{"make do ensure a: g = 0; end", 2, 0},
		{"make do ensure a: old g = 0; end", 2, 0},
		{"make require a: False; do f; end f do end", 1, api.FaPre},
		{"make do f; rescue f; end f do g; g; raise 1; end", 3, 101},
		{"make do f (62); end f (i: INTEGER) do if i > 0 then f (i - 1); end; end", api.MaxFrames, 0},
		{"make do f (63); end f (i: INTEGER) do if i > 0 then f (i - 1); end; end", api.MaxFrames, api.FaDeep},
		{"make do f (61); end f (i: INTEGER) do if i > 0 then f (i - 1); end; put Current.n; end n: INTEGER; invariant a: True;", api.MaxFrames, 0},
		{"make do f (62); end f (i: INTEGER) do if i > 0 then f (i - 1); end; put Current.n; end n: INTEGER; invariant a: True;", api.MaxFrames, api.FaDeep},
		{"y: MAIN; make do if f < 3 then end; end f: INTEGER local k: MAIN do create k.h; end h do g; end", 4, 0},
		// what was too deep is over: other calls may be as deep then
		{"make local k: INTEGER do if k = 0 then f (63); else f (62); end; rescue k := k + 1; if k = 1 then retry; end; end f (i: INTEGER) do if i > 0 then f (i - 1); end; end", api.MaxFrames, 0},
		{"make local k: INTEGER do k := k + 1; Current.f (k); rescue retry; end f (i: INTEGER) do if i < 200 then raise 1; end; end n: INTEGER; invariant a: n = 0;", 2, 0},
		{"make local k: INTEGER do k := k + 1; put Current.n; rescue if k < 200 then retry; end; end n: INTEGER; invariant a: 1 // n = 0;", 2, api.FaZero},
	} {
		features, invariant, is := strings.Cut(x.features, "invariant")
		if is {
			invariant = "invariant" + invariant
		}
		if strings.Contains(x.features, "g = 0") {
			features += " g: INTEGER do end"
		} else {
			features += " g do end"
		}
		l := system(t, "class MAIN create make feature { ANY } "+features+" "+invariant+" end")
		depth, err := mean.Depth(l, "MAIN", "make", many)
		if err != api.OK || depth != x.want {
			t.Error(x.features, depth, err, x.want)
		}
		if m, err := mean.Run(l, "MAIN", "make", many); err != api.OK || m.Fault != x.fault {
			t.Error(x.features, m, err)
		}
	}
}

// P7.6: the objects in the end.
func TestObjects(t *testing.T) {
	t.Parallel()
	node := "class NODE create make, empty feature { ANY } value: INTEGER; right: detachable NODE; is: BOOLEAN; left: detachable NODE; any_one: ANY; make (l: detachable NODE; r: detachable NODE; v: INTEGER) do left := l; right := r; value := v; is := v > 2; end empty do end end "
	ref := func(n int) api.Val { return api.Val{Kind: api.VaRef, N: n} }
	void := api.Val{Kind: api.VaVoid}
	num := func(n int) api.Val { return api.Val{Kind: api.VaInt, N: n} }
	is := func(n int) api.Val { return api.Val{Kind: api.VaBool, N: n} }
	for _, x := range []struct {
		stmts string
		want  []api.Node
	}{
		{"", []api.Node{{Class: "MAIN", Vals: []api.Val{void, void}}}},
		// members in order: any_one, is, left, right, value
		{"create b.empty; create a.empty;", []api.Node{{Class: "MAIN", Vals: []api.Val{ref(1), ref(2)}}, {Class: "NODE", Vals: []api.Val{void, is(0), void, void, num(0)}}, {Class: "NODE", Vals: []api.Val{void, is(0), void, void, num(0)}}}},
		{"create x.make (Void, Void, 1); create y.make (Void, x, 2); create z.make (x, y, 3); b := z;", []api.Node{{Class: "MAIN", Vals: []api.Val{void, ref(1)}}, {Class: "NODE", Vals: []api.Val{void, is(1), ref(2), ref(3), num(3)}},
			{Class: "NODE", Vals: []api.Val{void, is(0), void, void, num(1)}}, {Class: "NODE", Vals: []api.Val{void, is(0), void, ref(2), num(2)}}}},
		// those that are not reached are not there, also not their numbers
		{"create x.empty; create x.make (Void, Void, 7); create z.empty; a := x; b := x; raise 5;", []api.Node{{Class: "MAIN", Vals: []api.Val{ref(1), ref(1)}}, {Class: "NODE", Vals: []api.Val{void, is(1), void, void, num(7)}}}},
		// values of other kinds than the types, and rings
		{"create x.make (x, x, 1); a := 5; b := True;", []api.Node{{Class: "MAIN", Vals: []api.Val{num(5), is(1)}}}},
		{"b := Current; create x.make (Void, Current, 4); a := x;", []api.Node{{Class: "MAIN", Vals: []api.Val{ref(1), ref(0)}}, {Class: "NODE", Vals: []api.Val{void, is(1), void, ref(0), num(4)}}}},
		// level by level: the fields of an object behind those of objects that were met ahead of it
		{"create x.make (Void, Void, 1); create y.make (x, Void, 2); create z.make (Void, Void, 3); a := y; b := z;", []api.Node{{Class: "MAIN", Vals: []api.Val{ref(1), ref(2)}}, {Class: "NODE", Vals: []api.Val{void, is(0), ref(3), void, num(2)}},
			{Class: "NODE", Vals: []api.Val{void, is(1), void, void, num(3)}}, {Class: "NODE", Vals: []api.Val{void, is(0), void, void, num(1)}}}},
	} {
		l := system(t, node+mainWith("local x: NODE; y: NODE; z: NODE do "+x.stmts, "b: detachable NODE; a: detachable NODE;"))
		g, err := mean.Objects(l, "MAIN", "make", many)
		if want := (api.Graph{Nodes: x.want, Roots: []api.Val{ref(0)}}); err != api.OK || !alike(g, want) {
			t.Errorf("%s: error %d, %v; want %v", x.stmts, err, g, want)
		}
		apart(t, g)
	}
	// a list of all objects that may be made
	l := system(t, mainWith("local y: detachable MAIN do from until n = 199 loop n := n + 1; create y.with (y); end; next := y; create y.with (Void);", "next: detachable MAIN; n: INTEGER; with (x: detachable MAIN) do next := x; end"))
	if g, err := mean.Objects(l, "MAIN", "make", many); err != api.OK || len(g.Nodes) != api.MaxMade || g.Nodes[198].Vals[1] != ref(199) || g.Nodes[199].Vals[1] != void {
		t.Error(len(g.Nodes), err)
	}
}
