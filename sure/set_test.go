package sure_test

import (
	"slices"
	"strings"
	"testing"

	"cosigner/api"
	"cosigner/sure"
)

// P6.2, P6.10: what is set where variables are read.
func TestDefiniteAssignment(t *testing.T) {
	checkRules(t, bodies(met(
		"x := b; y := x;", "create x.start; y := x; x.add (1, x);",
		"if t then x := b; else x := p; end; y := x;",
		"if t then x := b; else raise 1; end; y := x;",
		"if t then raise 1; else x := b; end; y := x;",
		"if t then x := b; y := x; end;",
		"from x := b; until t loop y := x; end; y := x;",
		"from x := b; invariant a: x.full; until x.full variant x.count loop end;",
		"from raise 1; until t loop y := x; end; y := x;",
		"raise 1; y := x; z := z;",
		"separate r as v do x := b; end; y := x;",
		"if t then raise 1; end; y := b;",
		"if t then raise 1; else raise 2; end; y := x;",
		"y := y; j := j + 1; k := k; any := p;",
		"x := b; x := x; x := x.twin;",
		"if attached q as v then x := v; else x := b; end; y := x;",
		"if t then if k then x := b; else x := p; end; else create x.start; end; y := x;",
		"x := b; if t then else end; from until t loop end; check end; put 1; work; y := x;",
	)...))
	checkRules(t, bodies(
		rule{"if t then x := b; end; y := x;", api.ErrVoid, "x"},
		rule{"if t then else x := b; end; y := x;", api.ErrVoid, "x"},
		rule{"if t then x := b; else y := x; end;", api.ErrVoid, "x"},
		rule{"if t then x := b; else z := r; end; y := x;", api.ErrVoid, "x"},
		rule{"from until t loop x := b; end; y := x;", api.ErrVoid, "x"},
		rule{"from until t loop y := x; x := b; end;", api.ErrVoid, "x"},
		rule{"from until x.full loop x := b; end;", api.ErrVoid, "x"},
		rule{"from until t variant x.count loop x := b; end;", api.ErrVoid, "x"},
		rule{"from invariant a: x.full; until t loop x := b; end;", api.ErrVoid, "x"},
		rule{"from until t loop raise 1; end; y := x;", api.ErrVoid, "x"},
		rule{"if t then raise 1; end; y := x;", api.ErrVoid, "x"},
		rule{"x := x;", api.ErrVoid, "x"},
		rule{"y := x; x := b;", api.ErrVoid, "x"},
		rule{"z := x;", api.ErrVoid, "x"},
		rule{"put x = x;", api.ErrVoid, "x"},
		rule{"put attached x as v;", api.ErrVoid, "x"},
		rule{"separate z as v do end;", api.ErrVoid, "z"},
		rule{"separate r as v when x.full do x := b; end;", api.ErrVoid, "x"},
		rule{"check a: x.full; end;", api.ErrVoid, "x"},
	))
	checkRules(t, []rule{
		{"f local x: G do e := x; end", api.ErrVoid, "x"},
		{"f local x: G do x := g; e := x; end", api.OK, ""},
		{"f local x: detachable G do e := x; end", api.OK, ""},
		{"f local x: detachable separate BOX do put x = Void; end", api.OK, ""},
		// Rescue begins anew, and so does Body behind a retry.
		{"f local x: BOX do x := b; rescue d := x; end", api.ErrVoid, "x"},
		{"f local x: BOX do x := b; rescue x := b; d := x; end", api.OK, ""},
		{"f local x: BOX do x := b; rescue if t then x := b; else retry; end; d := x; end", api.OK, ""},
		{"f local x: BOX do x := b; rescue if t then retry; end; d := x; end", api.ErrVoid, "x"},
		{"f local x: BOX do x := b; rescue retry; d := x; end", api.OK, ""},
		{"f local x: BOX do raise 1; rescue d := x; end", api.ErrVoid, "x"},
		// The end of Body.
		{"f: BOX do end", api.ErrVoid, "-"},
		{"f: G do end", api.ErrVoid, "-"},
		{"f: separate BOX do end", api.ErrVoid, "-"},
		{"f: detachable BOX do end", api.OK, ""},
		{"f: detachable G do end", api.OK, ""},
		{"f: BOOLEAN do end", api.OK, ""},
		{"f: BOX do raise 1; end", api.OK, ""},
		{"f: BOX do if t then Result := b; end; end", api.ErrVoid, "-"},
		{"f: BOX do if t then Result := b; else raise 1; end; end", api.OK, ""},
		{"f: BOX do from until t loop Result := b; end; end", api.ErrVoid, "-"},
		{"f: BOX do rescue Result := b; end", api.ErrVoid, "-"},
		{"f: BOX do Result := b; rescue put 1; end", api.OK, ""},
		{"f: BOX do ensure a: Result.full; end", api.ErrVoid, "-"},
		{"f: BOX do ensure a: none; end", api.ErrName, "none"},
		{"f: BOX do rescue none; end", api.ErrName, "none"},
	})
	l := system(t, "deferred class A feature { ANY } f: A deferred ensure a: Result /= Void; end end")
	if got := faultsOf(t, l); len(got) != 0 {
		t.Error(got)
	}
}

// sets checks what is set ahead of some nodes of the feature f of MAIN, which are told by their texts.
func sets(t *testing.T, feature string, want map[string]string) {
	t.Helper()
	l := system(t, strings.Replace(base, "%", feature, 1))
	f := *featureOf(t, l, "MAIN", "f")
	for at, names := range want {
		got, err := sure.Set(l, "MAIN", "f", nodeOf(t, f, at))
		if err != api.OK || !slices.Equal(got, strings.Fields(names)) {
			t.Errorf("%s: %s: %v (%d), want %s", feature, at, got, err, names)
		}
	}
}

// P6.5: what is set ahead of a node, in the order of the locals, with Result last.
func TestSet(t *testing.T) {
	sets(t, "f: BOX local x: BOX; y: detachable BOX; z: G; j: INTEGER do y := b; z := g; Result := b; x := Result; j := 1; end", map[string]string{
		"y := b;": "", "b": "", "z := g;": "", "Result := b;": "z", "x := Result;": "z Result", "Result": "z Result", "j := 1;": "x z Result", "1": "x z Result",
	})
	sets(t, "f: BOX require a: n = 5; local x: BOX; z: BOX do x := b; Result := x; if t then z := b; else put 2; end; put 3; ensure b: n = 6; rescue put 4; x := b; put 7; retry; put 8; end", map[string]string{
		"n = 5": "", "if t then z := b; else put 2; end;": "x Result", "z := b;": "x Result", "put 2;": "x Result", "put 3;": "x Result",
		"n = 6": "x Result", "6": "x Result", "put 4;": "", "put 7;": "x", "retry;": "x", "put 8;": "x z Result",
	})
	sets(t, "f local x: BOX; z: BOX do from x := b; invariant a: n = 1; until t variant n - 2 loop put 3; z := b; put 4; end; put 5; end", map[string]string{
		"x := b;": "", "n = 1": "x", "t": "x", "n - 2": "x", "put 3;": "x", "put 4;": "x z", "put 5;": "x",
	})
	sets(t, "f local x: BOX; z: BOX do if t then raise 1; put 2; else x := b; end; put 3; raise 4; put 5; end", map[string]string{
		"put 2;": "x z", "put 3;": "x", "raise 4;": "x", "put 5;": "x z", "5": "x z",
	})
	sets(t, "f (r: separate BOX) local x: BOX do separate r as v when n = 1 do put 2; create x.fill (3); put 4; end; put 5; end", map[string]string{
		"n = 1": "", "put 2;": "", "create x.fill (3);": "", "3": "", "put 4;": "x", "put 5;": "x",
	})
	sets(t, "f: BOX local x: BOX do raise 1; ensure a: n = 2; rescue put 3; end", map[string]string{"n = 2": "x Result", "put 3;": ""})
	l := system(t, "deferred class A feature { ANY } f: A deferred require a: 1 = 1; ensure a: 1 = 2; end g: INTEGER deferred ensure a: 3 = 3; end end")
	for _, c := range []struct {
		name string
		at   int
		want []string
	}{{"f", 0, nil}, {"f", 3, []string{"Result"}}, {"f", 5, []string{"Result"}}, {"g", 0, nil}} {
		if got, err := sure.Set(l, "A", c.name, c.at); err != api.OK || !slices.Equal(got, c.want) {
			t.Error(c, got, err)
		}
	}
}
