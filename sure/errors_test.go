package sure_test

import (
	"slices"
	"strings"
	"testing"

	"cosigner/api"
	"cosigner/flat"
	"cosigner/heir"
	"cosigner/kind"
	"cosigner/sure"
)

// call is what a function returned, its error last.
type call struct {
	name    string
	results []any
}

// calls calls all functions but Check.
func calls(l []api.Class, client, class, feature string, at int) []call {
	list := func(name string, results ...any) call { return call{name, results} }
	faults, e1 := sure.Faults(l)
	n, e2 := sure.Nodes(l, class, feature)
	typed, e3 := sure.TypeOf(l, class, feature, at)
	set, e4 := sure.Set(l, class, feature, at)
	needs, e5 := sure.Needs(l, class)
	err, node, e6 := sure.Makes(l, class, feature)
	uses, e7 := sure.Uses(l, class, feature)
	is, e8 := sure.Visible(l, client, class, feature)
	names, e9 := sure.Names(l, class, feature)
	return []call{
		list("Faults", faults, e1), list("Nodes", n, e2), list("TypeOf", typed, e3), list("Set", set, e4), list("Needs", needs, e5),
		list("Makes", err, node, e6), list("Uses", uses, e7), list("Visible", is, e8), list("Names", names, e9),
	}
}

// fail checks that some of the calls (all, if none are named) have an error, and with it nothing else.
func fail(t *testing.T, calls []call, want api.Errno, functions ...string) {
	t.Helper()
	for _, c := range calls {
		if len(functions) > 0 && !slices.Contains(functions, c.name) {
			continue
		}
		last := len(c.results) - 1
		if c.results[last].(api.Errno) != want {
			t.Errorf("%s: %d, want %d", c.name, c.results[last], want)
		}
		for _, r := range c.results[:last] {
			if want != api.OK && !isZero(r) {
				t.Errorf("%s: %v together with an error", c.name, r)
			}
		}
	}
}

// Functions: the error of a system that is not well-founded comes first: of layer 3, of layer 5, of layer 4.
func TestErrorsOfSystems(t *testing.T) {
	plain := "class A feature { ANY } f do end end "
	for text, want := range map[string]api.Errno{
		plain + "class B inherit B; end":                                                               api.ErrCycle,
		plain + "class A end":                                                                          api.ErrTwice,
		plain + "class B inherit C; end":                                                               api.ErrNone,
		plain + "class B [G: A, H: A, K: A, L: A] end":                                                 api.ErrLimit,
		plain + "class B [G: B] end":                                                                   api.ErrType,
		plain + "class B inherit A [A]; end":                                                           api.ErrType,
		plain + "class B feature { ANY } x: A; x: A; end":                                              api.ErrTwice,
		plain + "class B inherit A; feature { ANY } f do end end":                                      api.ErrClash,
		plain + "class B feature { ANY } f deferred end end":                                           api.ErrClash,
		plain + "class B feature { ANY } x: A; x: A; end class C inherit C; end":                       api.ErrCycle,
		plain + "class B feature { ANY } x: A; x: A; end class C [G: C] end":                           api.ErrType,
		plain + "class B feature { ANY } f deferred end x: A; x: A; end":                               api.ErrTwice,
		plain + "class B inherit A [A]; feature { ANY } f do end f do end end class C [G: NO] end":     api.ErrNone,
		plain + "class B [G: ANY, G: ANY] feature { ANY } x: A; x: A; end":                             api.ErrTwice,
		plain + "class B inherit A rename f as g, f as h; end class C [G: ANY] inherit A [C [G]]; end": api.ErrType,
	} {
		l := system(t, text)
		err, _ := heir.Check(l)
		other, _ := kind.Check(l)
		_, last := flat.Flats(l)
		if first(err, other, last) != want {
			t.Fatal(text, err, other, last)
		}
		checks(t, l, want)
		fail(t, calls(l, "A", "A", "f", 0), want)
		fail(t, calls(l, "NO", "NO", "no", -1), want)
	}
	small := system(t, plain)
	small[0].Features[0].Name = "F"
	checks(t, small, api.ErrName)
	fail(t, calls(small, "NO", "NO", "no", -1), api.ErrName)
	many := make([]api.Class, api.MaxClasses+1)
	checks(t, many, api.ErrLimit)
	fail(t, calls(many, "NO", "NO", "no", -1), api.ErrLimit)
}

// Functions: names of classes and features come next, and then faults, and nodes.
func TestErrorsOfNames(t *testing.T) {
	l := system(t, strings.Replace(base, "%", "f do none; end", 1))
	with := []string{"Nodes", "TypeOf", "Set", "Makes", "Uses", "Visible", "Names"}
	declared := []string{"Nodes", "TypeOf", "Set", "Uses", "Names"}
	for _, class := range []string{"NO", "", "ANY", "NONE", "G", "main"} {
		fail(t, calls(l, "MAIN", class, "f", -1), api.ErrNone, append(with, "Needs")...)
		fail(t, calls(l, class, "MAIN", "f", -1), api.ErrNone, "Visible")
		fail(t, calls(l, class, class, "f", -1), api.ErrNone, "Visible")
	}
	for _, feature := range []string{"no", "", "F", "invariant", "Result"} {
		fail(t, calls(l, "MAIN", "MAIN", feature, -1), api.ErrNone, with...)
	}
	// A member that the class does not declare.
	fail(t, calls(l, "MAIN", "MAIN", "calm", 0), api.ErrNone, declared...)
	fail(t, calls(l, "MAIN", "MAIN", "calm", 0), api.OK, "Makes", "Visible")
	fail(t, calls(l, "MAIN", "TIN", "start", 0), api.ErrNone, declared...)
	// The feature's fault, ahead of nodes that there are not.
	for _, at := range []int{-1, 0, 1, 2} {
		fail(t, calls(l, "MAIN", "MAIN", "f", at), api.ErrName, append(declared, "Makes")...)
	}
	fail(t, calls(l, "MAIN", "MAIN", "f", 0), api.OK, "Visible", "Needs", "Faults")
	fail(t, calls(l, "MAIN", "MAIN", "made", 0), api.OK, "Nodes", "Set", "Uses", "Names", "Visible", "Makes")
	fail(t, calls(l, "MAIN", "MAIN", "made", 0), api.ErrNone, "TypeOf")
	fail(t, calls(l, "MAIN", "MAIN", "made", 9), api.ErrNone, "TypeOf", "Set")
	// The fault of a creation is none of the feature.
	l = system(t, "class A create f feature { ANY } x: A; f do end end")
	checks(t, l, api.ErrVoid)
	fail(t, calls(l, "A", "A", "f", 0), api.OK, "Nodes", "Uses", "Names", "Needs", "Makes", "Visible")
}

// R6: arguments stay as they are, and results share no memory with them, or within themselves.
func TestMemory(t *testing.T) {
	r := newChance(64)
	for range 60 {
		l := copied(r.system(4))
		was := copied(l)
		values := []any{l}
		for _, c := range l {
			for _, f := range c.Features {
				n, _ := sure.Nodes(l, c.Name, f.Name)
				for _, x := range calls(l, c.Name, c.Name, f.Name, r.Intn(n+1)) {
					values = append(values, x.results...)
				}
			}
		}
		apart(t, values...)
		if !alike(l, was) {
			t.Fatal(textOf(l), textOf(was))
		}
	}
	l := system(t, "class L [G: ANY] end class A [G: ANY, H: ANY] feature { ANY } x: L [L [G]]; f (a: L [G]; b: L [L [G]]) local c: L [L [H]] do put attached a as d; put attached Current as e; raise 1; put x = b; put c = Void; end end")
	values := []any{l}
	for at := range 20 {
		x, _ := sure.TypeOf(l, "A", "f", at)
		values = append(values, x)
	}
	names, err := sure.Names(l, "A", "f")
	uses, _ := sure.Uses(l, "A", "f")
	if err != api.OK || len(names) != 5 {
		t.Error(names, err)
	}
	apart(t, append(values, names, uses)...)
}
