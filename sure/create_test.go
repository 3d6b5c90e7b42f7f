package sure_test

import (
	"slices"
	"strings"
	"testing"

	"cosigner/api"
	"cosigner/sure"
)

// P6.3: Needs.
func TestNeeds(t *testing.T) {
	l := system(t, strings.Replace(base, "%", "zz: detachable separate BOX; aa: LIST [G]; f: BOX do Result := b; end", 1))
	for class, want := range map[string]string{
		"BOX": "far", "TIN": "far", "LIST": "item", "FRIEND": "", "ANCESTOR": "", "SHAPE": "", "MAIN": "aa any b g h l s shape",
	} {
		if got, err := sure.Needs(l, class); err != api.OK || !slices.Equal(got, strings.Fields(want)) {
			t.Error(class, got, err)
		}
	}
	l = system(t, "class A [G: ANY] feature { ANY } x: G; y: detachable G; end deferred class B feature { ANY } z: B deferred end w: INTEGER deferred end end class C inherit A [B] rename x as u; B; feature { ANY } z: C; w: INTEGER; end")
	if got, err := sure.Needs(l, "C"); err != api.OK || !slices.Equal(got, []string{"u", "z"}) {
		t.Error(got, err)
	}
}

// creator is the body of a procedure f of the class C, which has the attributes a and b that need setting, and where it is wrong as a creation.
type creator struct {
	feature string
	want    api.Errno
	at      string
}

// checkCreators checks what Makes returns, and the faults, which are all that there are.
func checkCreators(t *testing.T, l []creator) {
	t.Helper()
	for _, c := range l {
		classes := system(t, strings.Replace(`
class BOX create start feature { ANY } count: INTEGER; full: BOOLEAN; next: detachable BOX; start do end take (x: ANY) do end end
class P feature { ANY } old_one: BOX; help do end get: INTEGER do end end
class C inherit P; create f feature { ANY } b: BOX; n: INTEGER; t: BOOLEAN; d: detachable C; work do end made: BOX do Result := b; end
% end`, "%", c.feature, 1))
		features := classOf(classes, "C").Features
		f := features[len(features)-1]
		at := 0
		var want []api.Fault
		if c.want != api.OK {
			at = nodeOf(t, f, c.at)
			want = []api.Fault{{Class: "C", Feature: "f", Create: true, At: at, Err: c.want}}
		}
		if got := faultsOf(t, classes); !alike(got, want) {
			t.Errorf("%s: %v, want %v", c.feature, got, want)
		}
		if err, got, other := sure.Makes(classes, "C", "f"); err != c.want || got != at || other != api.OK {
			t.Errorf("%s: %d at %d (%d), want %d at %d", c.feature, err, got, other, c.want, at)
		}
	}
}

// P6.3: the attributes are set ahead of every other use.
func TestMakes(t *testing.T) {
	set := "f (x: BOX) do b := x; old_one := x; "
	checkCreators(t, []creator{
		{set + "end", api.OK, ""},
		{set + "work; b.take (Current); n := get; end", api.OK, ""},
		{"f do create b.start; b.take (b); create old_one.start; end", api.OK, ""},
		{"f (x: BOX) do b := x; n := b.count; old_one := b; help; end", api.OK, ""},
		{"f (x: BOX) do n := 1; t := x.full; d := Void; old_one := x; b := old_one; end", api.OK, ""},
		{"f (x: BOX) do if x.full then b := x; else create b.start; end; old_one := b; end", api.OK, ""},
		{"f (x: BOX) do if x.full then " + "b := x; old_one := x; else raise 1; end; work; end", api.OK, ""},
		{"f do raise 1; work; end", api.OK, ""},
		{"f (x: BOX) do from b := x; until t loop end; old_one := b; end", api.OK, ""},
		{"f (x: separate BOX; y: BOX) do separate x as v do b := y; old_one := y; end; work; end", api.OK, ""},
		{"f (x: BOX) local y: BOX do y := x; y.take (y); b := y; old_one := y; end", api.OK, ""},
		{"f (x: BOX) do if attached x.next as v then b := v; else b := x; end; old_one := x; end", api.OK, ""},
		{"f (x: BOX) require a: x.full and n = 0 and d = Void; do b := x; old_one := x; end", api.OK, ""},
		// At the end.
		{"f do end", api.ErrVoid, "-"},
		{"f (x: BOX) do b := x; end", api.ErrVoid, "-"},
		{"f (x: BOX) do old_one := x; end", api.ErrVoid, "-"},
		{"f (x: BOX) do b := x; if t then old_one := x; end; end", api.ErrVoid, "-"},
		{"f (x: BOX) do b := x; from until t loop old_one := x; end; end", api.ErrVoid, "-"},
		{"f (x: BOX) do b := x; rescue old_one := x; end", api.ErrVoid, "-"},
		// Ahead of it.
		{"f (x: BOX) do b.take (x); b := x; old_one := x; end", api.ErrVoid, "b"},
		{"f (x: BOX) do b := old_one; old_one := x; end", api.ErrVoid, "old_one"},
		{"f (x: BOX) do b := x; put old_one = x; old_one := x; end", api.ErrVoid, "old_one"},
		{"f (x: BOX) do b := x; d := Current; old_one := x; end", api.ErrVoid, "Current"},
		{"f (x: BOX) do b := x; put Current.n; old_one := x; end", api.ErrVoid, "Current"},
		{"f (x: BOX) do x.take (Current); b := x; old_one := x; end", api.ErrVoid, "Current"},
		{"f (x: BOX) do b := x; work; old_one := x; end", api.ErrVoid, "work"},
		{"f (x: BOX) do b := x; help; old_one := x; end", api.ErrVoid, "help"},
		{"f (x: BOX) do n := get; b := x; old_one := x; end", api.ErrVoid, "get"},
		{"f (x: BOX) do f (b); b := x; old_one := x; end", api.ErrVoid, "b"},
		{"f (x: BOX) do f (x); b := x; old_one := x; end", api.ErrVoid, "f (x)"},
		{"f (x: BOX) do b := made; old_one := x; end", api.ErrVoid, "made"},
		{"f (x: BOX) do check a: b = x; end; b := x; old_one := x; end", api.ErrVoid, "b"},
		{"f (x: BOX) do from b := x; invariant a: old_one = x; until t loop end; old_one := x; end", api.ErrVoid, "old_one"},
		{"f (x: BOX) do if t then b := x; end; put b.count; b := x; old_one := x; end", api.ErrVoid, "b"},
		{"f (x: separate BOX; y: BOX) do separate x as v when b = y do b := y; old_one := y; end; end", api.ErrVoid, "b"},
		{set + "rescue put b.count; end", api.ErrVoid, "b"},
		{set + "rescue work; end", api.ErrVoid, "work"},
		{set + "rescue retry; end", api.OK, ""},
		{set + "rescue retry; work; end", api.OK, ""},
		{set + "rescue " + "b := x; old_one := x; work; end", api.OK, ""},
		{"f (x: BOX) do work; rescue work; end", api.ErrVoid, "work"},
		// Assertions.
		{set + "ensure a: b = x and old_one.full and d /= Current; end", api.OK, ""},
		{set + "ensure a: old n = n and old x = x; end", api.OK, ""},
		{set + "ensure a: old b = x; end", api.ErrVoid, "-"},
		{set + "ensure a: n = old (n + b.count); end", api.ErrVoid, "-"},
		{set + "ensure a: d /= old Current; end", api.ErrVoid, "-"},
		{set + "ensure a: t = (b = old old_one); end", api.ErrVoid, "-"},
		{"f (x: BOX) require a: t and b.full; do b := x; old_one := x; end", api.ErrVoid, "-"},
		{"f (x: BOX) require a: t; c: d = Current; do b := x; old_one := x; end", api.ErrVoid, "-"},
		{"f (x: BOX) require a: old_one.next = Void; do work; end", api.ErrVoid, "-"},
		{"f (x: BOX) do work; ensure a: old b = x; end", api.ErrVoid, "-"},
		{"f (x: BOX) do b := x; ensure a: old_one = x; end", api.ErrVoid, "old_one"},
		{"f (x: BOX) do b := x; ensure a: d = Current; end", api.ErrVoid, "Current"},
		{"f (x: BOX) do b := x; ensure a: b = x; end", api.ErrVoid, "-"},
	})
}

// made is what Makes returns.
type made struct {
	err   api.Errno
	at    int
	other api.Errno
}

func checkMakes(t *testing.T, l []api.Class, class, feature string, want made) {
	t.Helper()
	err, at, other := sure.Makes(l, class, feature)
	if (made{err, at, other}) != want {
		t.Errorf("%s %s: %d at %d (%d), want %v: %v", class, feature, err, at, other, want, textOf(l))
	}
}

// P6.3: members of other kinds, and declarations with a fault.
func TestMakesOfOthers(t *testing.T) {
	l := system(t, `
deferred class A feature { ANY } f do put x; end g do end h deferred end n: INTEGER; k: INTEGER do Result := n; end end
class B inherit A redefine g; create f, g, h, k, n feature { ANY } g do end h do end x: B; end`)
	checkMakes(t, l, "A", "f", made{0, 0, api.ErrName})
	checkMakes(t, l, "B", "f", made{0, 0, api.ErrName})
	checkMakes(t, l, "A", "g", made{0, 0, 0})
	checkMakes(t, l, "B", "g", made{api.ErrVoid, -1, 0})
	checkMakes(t, l, "A", "h", made{api.ErrName, -1, 0})
	checkMakes(t, l, "A", "n", made{api.ErrName, -1, 0})
	checkMakes(t, l, "A", "k", made{0, 0, 0})
	checkMakes(t, l, "B", "k", made{api.ErrVoid, -1, 0})
	checkMakes(t, l, "B", "x", made{api.ErrName, -1, 0})
	want := []api.Fault{
		{Class: "A", Feature: "f", At: 1, Err: api.ErrName},
		{Class: "B", At: -1, Err: api.ErrName},
		{Class: "B", Feature: "g", Create: true, At: -1, Err: api.ErrVoid},
		{Class: "B", Feature: "h", Create: true, At: -1, Err: api.ErrVoid},
		{Class: "B", Feature: "k", Create: true, At: -1, Err: api.ErrVoid},
	}
	if got := faultsOf(t, l); !alike(got, want) {
		t.Error(got)
	}
}

// P6.3: names are those of the class that declares the body, or the clause; they mean what they are in the class that is created.
func TestMakesOfDescendants(t *testing.T) {
	l := system(t, `
class A create f feature { ANY } a: A; n: INTEGER; f (x: A) do a := x; n := 1; ensure c: a = x; end g require c: a.n = 1; do end end
class B inherit A rename a as b, f as make; create make feature { ANY } a: INTEGER; end
class C inherit A; create f feature { ANY } c: C; end
class D inherit A rename n as a, a as n; create f feature { ANY } z: BOOLEAN; end
class E inherit A redefine f; create f feature { ANY } f (x: A) require c: a = x; do a := x; end end
class F inherit A redefine f, g; create f feature { ANY } f (x: A) do a := x; end g do a := Current; end end`)
	checkMakes(t, l, "A", "f", made{0, 0, 0})
	checkMakes(t, l, "B", "make", made{0, 0, 0})
	checkMakes(t, l, "C", "f", made{api.ErrVoid, -1, 0})
	checkMakes(t, l, "D", "f", made{0, 0, 0})
	checkMakes(t, l, "E", "f", made{api.ErrVoid, -1, 0})
	checkMakes(t, l, "F", "f", made{0, 0, 0})
	for _, class := range []string{"A", "B", "D", "F"} {
		checkMakes(t, l, class, "g", made{api.ErrVoid, -1, 0})
	}
	// A postcondition of an ancestor, and a precondition that this one has under another name.
	l = system(t, `
class A create f feature { ANY } a: A; f (x: A) do a := x; ensure c: x = old x; end end
class B inherit A redefine f; create f feature { ANY } f (x: A) do a := x; ensure c: x /= old a; end end
class C inherit B redefine f; create f feature { ANY } f (x: A) do a := x; end end
class D inherit C rename a as b redefine f; create f feature { ANY } a: INTEGER; f (x: A) do b := x; end end`)
	checkMakes(t, l, "A", "f", made{0, 0, 0})
	for _, class := range []string{"B", "C", "D"} {
		checkMakes(t, l, class, "f", made{api.ErrVoid, -1, 0})
	}
	// Of an attribute with two names the one that is selected is meant, so that the other one is never set.
	l = system(t, `
class A feature { ANY } a: A; f (x: A) do a := x; end end
class B inherit A rename f as g; end
class C inherit A rename a as b select b, f; B; create f feature { ANY } h (x: A) do a := x; b := x; end i (x: A) do b := x; put a = x; end end`)
	checkMakes(t, l, "A", "f", made{0, 0, 0})
	checkMakes(t, l, "B", "g", made{0, 0, 0})
	for _, f := range []string{"f", "g", "h", "i"} {
		checkMakes(t, l, "C", f, made{api.ErrVoid, -1, 0})
	}
	// What is a routine in the words of the body stays one, also if it is an attribute in the class that is created.
	l = system(t, `
deferred class A feature { ANY } size: INTEGER deferred end a: A; f (x: A) do put size; a := x; end g (x: A) do a := x; put size; end end
class B inherit A; create f, g feature { ANY } size: INTEGER; end`)
	checkMakes(t, l, "B", "f", made{api.ErrVoid, 1, 0})
	checkMakes(t, l, "B", "g", made{0, 0, 0})
	// A local is no attribute, also if this has its name in the class that is created.
	l = system(t, `
class A feature { ANY } a: detachable A; b: A; f (y: A) local x: A do x := y; a := x; end end
class B inherit A rename b as x; create f feature { ANY } z: INTEGER; end`)
	checkMakes(t, l, "A", "f", made{api.ErrVoid, -1, 0})
	checkMakes(t, l, "B", "f", made{api.ErrVoid, -1, 0})
	// Formals that are attached need setting, whatever they are in a descendant.
	l = system(t, `
class A [G: ANY] create f feature { ANY } a: G; b: detachable G; f (x: G) do a := x; end g (x: G) do b := x; end end
class B inherit A [B]; create f, g end`)
	checkMakes(t, l, "B", "f", made{0, 0, 0})
	checkMakes(t, l, "B", "g", made{api.ErrVoid, -1, 0})
	// Current is asked for, also if there is nothing to be set.
	l = system(t, "class A feature { ANY } f (x: A) require c: x /= Current; do end g do put Current = Void; ensure c: old (Current = Void); end h do put Current = Void; ensure c: Current /= Void; end end")
	checkMakes(t, l, "A", "f", made{api.ErrVoid, -1, 0})
	checkMakes(t, l, "A", "g", made{api.ErrVoid, -1, 0})
	checkMakes(t, l, "A", "h", made{0, 0, 0})
}

// P6.3: arguments are no attributes, whatever is called so in another class.
func TestMakesWithArguments(t *testing.T) {
	l := system(t, `
deferred class A feature { ANY } f (x: ANY) deferred require c: x = Void; end end
class B inherit A; create f feature { ANY } y: B; f (x: ANY) do create y.f (x); ensure c: old x = x; end end
class C inherit B rename y as x; create f end`)
	checkMakes(t, l, "B", "f", made{0, 0, 0})
	checkMakes(t, l, "C", "f", made{0, 0, 0})
	// The clause of A has a fault, as it has an argument with the name of an attribute; still it names the argument.
	l = system(t, `
class A feature { ANY } x: A; f (x: ANY) require c: x = Void; do end end
class B inherit A rename x as y redefine f; feature { ANY } f (x: ANY) do create y.g; end g do raise 1; end end`)
	checkMakes(t, l, "B", "f", made{0, 0, api.ErrNone})
	l[1].Create = []string{"g"}
	l[1].Features[0].Body[0].Exprs[0].Name = "g"
	checkMakes(t, l, "B", "f", made{0, 0, api.ErrNone})
	l[1].Features[0].Body = []api.Stmt{{Kind: api.StRaise}}
	checkMakes(t, l, "B", "f", made{0, 0, 0})
}
