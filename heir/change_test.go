package heir_test

import (
	"math/rand"
	"reflect"
	"slices"
	"testing"

	"cosigner/api"
	"cosigner/heir"
)

func touched(t *testing.T, l []api.Class, changed []string) []string {
	t.Helper()
	got, e := heir.Touched(l, changed)
	if e != api.OK {
		t.Fatalf("%v, %v: %d", l, changed, e)
	}
	return got
}

// P3.9
func TestTouched(t *testing.T) {
	for _, c := range []struct{ text, changed, want string }{
		{example, "C", "C D E"}, {example, "A", "A B C D E"}, {example, "E", "E"}, {example, "B C", "B C D E"}, {example, "E B", "B D E"},
		{example, "", ""}, {example, "C C C", "C D E"},
		// Names that are no classes.
		{example, "X", ""}, {example, "X C ANY a", "C D E"}, {"", "A", ""}, {"", "", ""},
		// In the order of the system.
		{"E D A, D B C, C A, B A, A", "C", "E D C"}, {"E D A, D B C, C A, B A, A", "A", "E D C B A"}, {"B, A, C B", "A B", "B A C"}, {"B, A, C B", "C", "C"},
	} {
		same(t, c, touched(t, system(c.text), names(c.changed)), names(c.want))
	}
	same(t, "an empty name", touched(t, system(example), []string{""}), nil)
}

// P3.9: its limit is the first of its errors.
func TestTouchedLimit(t *testing.T) {
	many := slices.Repeat([]string{"X"}, 2*api.MaxClasses)
	many[len(many)-1] = "D"
	same(t, "many names", touched(t, system(example), many), names("D E"))
	for _, l := range [][]api.Class{system(example), nil, system("a"), system("A, A"), system("A X"), system("A A"), chain(api.MaxClasses + 1)} {
		if got, e := heir.Touched(l, append(many, "A")); e != api.ErrLimit || got != nil {
			t.Error(l, got, e)
		}
	}
	for _, c := range []struct {
		l    []api.Class
		want api.Errno
	}{{system("a"), api.ErrName}, {system("A, A"), api.ErrTwice}, {system("A X"), api.ErrNone}, {system("A A"), api.ErrCycle}, {chain(api.MaxClasses + 1), api.ErrLimit}} {
		if got, e := heir.Touched(c.l, many); e != c.want || got != nil {
			t.Error(c, got, e)
		}
	}
}

// P3.9, P3.17
func TestLawOfTouched(t *testing.T) {
	r := rand.New(rand.NewSource(317))
	for range 300 {
		l := byChance(r, 9)
		changed := make([]string, r.Intn(5))
		for i := range changed {
			changed[i] = number(r.Intn(10))
		}
		got := touched(t, l, changed)
		var want []string
		for _, c := range namesOf(l) {
			alone := slices.ContainsFunc(changed, func(x string) bool { return slices.Contains(touched(t, l, []string{x}), c) })
			if alone != slices.Contains(got, c) {
				t.Fatal(l, changed, c)
			}
			if slices.ContainsFunc(changed, func(x string) bool { return slices.Contains(namesOf(l), x) && isAbove(l, c, x) }) {
				want = append(want, c)
			}
		}
		same(t, l, got, want)
		for _, c := range got {
			for _, heir := range below(t, l, c) {
				if !slices.Contains(got, heir) {
					t.Fatal(l, changed, heir)
				}
			}
		}
	}
}

// P3.10: what Add returns.
func TestAdd(t *testing.T) {
	for text, c := range map[string]api.Class{
		"":        class("A"),
		"A, B A":  class("C", "B"),
		"B, A B":  class("C", "A", "B"),
		example:   class("A0"),
		"Z, Y, X": class("W", "X", "Y", "Z"),
	} {
		l := system(text)
		got, e := heir.Add(l, c)
		if e != api.OK || !alike(got, append(slices.Clone(l), c)) {
			t.Error(text, got, e)
		}
	}
	l := chain(api.MaxClasses - 1)
	if got, e := heir.Add(l, class("X", "C00")); e != api.OK || len(got) != api.MaxClasses || got[len(got)-1].Name != "X" {
		t.Error(got, e)
	}
}

// P3.10: the errors of Add.
func TestAddErrors(t *testing.T) {
	for _, c := range []struct {
		l    []api.Class
		c    api.Class
		want api.Errno
	}{
		{system(example), class("A"), api.ErrTwice},
		{system(example), class("E", "A"), api.ErrTwice},
		{system(example), class("F", "A", "A"), api.ErrTwice},
		{system(example), class("F", "X"), api.ErrNone},
		{system(example), class("F", "ANY"), api.ErrNone},
		{system(example), class("F", "F"), api.ErrCycle},
		{system(example), class("F", "A", "F"), api.ErrCycle},
		{system(example), class("F", "A", "B", "C", "D", "E"), api.ErrLimit},
		{system(example), class("f"), api.ErrName},
		{system(example), class(""), api.ErrName},
		{system(example), class("ANY", "A", "A"), api.ErrName},
		{nil, class("A", "A"), api.ErrCycle},
		{nil, class("A", "B"), api.ErrNone},
		{chain(api.MaxClasses), class("X"), api.ErrLimit},
		// The error of the system comes first, even if the result would have none, or another one.
		{system("A X"), class("X"), api.ErrNone},
		{system("A A"), class("A"), api.ErrCycle},
		{system("A X"), class("x"), api.ErrNone},
		{system("A A"), class("B", "X"), api.ErrCycle},
		{chain(api.MaxClasses + 1), class("x"), api.ErrLimit},
	} {
		if got, e := heir.Add(c.l, c.c); e != c.want || got != nil {
			t.Error(c.l, c.c, got, e)
		}
	}
}

// P3.10: what Without returns.
func TestWithout(t *testing.T) {
	for _, c := range []struct{ text, name, want string }{
		{example, "E", "A, B A, C A, D B C"},
		{"E D A, D B C, C A, B A, A", "E", "D B C, C A, B A, A"},
		{"A", "A", ""},
		{"A, B, C", "B", "A, C"},
		{"A, B A, C A", "B", "A, C A"},
	} {
		got, e := heir.Without(system(c.text), c.name)
		if e != api.OK || !alike(got, system(c.want)) {
			t.Error(c, got, e)
		}
	}
	for _, c := range names("A B C D") {
		if got, e := heir.Without(system(example), c); e != api.ErrClash || got != nil {
			t.Error(c, got, e)
		}
	}
	// ErrClash is the last error.
	if got, e := heir.Without(system("A, B A, C X"), "A"); e != api.ErrNone || got != nil {
		t.Error(got, e)
	}
	if got, e := heir.Without(system("A, B A, B"), "A"); e != api.ErrTwice || got != nil {
		t.Error(got, e)
	}
}

// alike tells whether two systems are equal; an empty list is so, be it nil or not.
func alike(l, m []api.Class) bool {
	return alikeValues(reflect.ValueOf(l), reflect.ValueOf(m))
}

func alikeValues(v, w reflect.Value) bool {
	switch v.Kind() {
	case reflect.Slice:
		if v.Len() != w.Len() {
			return false
		}
		for i := range v.Len() {
			if !alikeValues(v.Index(i), w.Index(i)) {
				return false
			}
		}
		return true
	case reflect.Struct:
		for i := range v.NumField() {
			if !alikeValues(v.Field(i), w.Field(i)) {
				return false
			}
		}
		return true
	}
	return v.Interface() == w.Interface()
}

// fullSystem returns a new system of which every list of every class has elements, and lists do not end where their memory does.
func fullSystem() []api.Class {
	l := append(make([]api.Class, 0, 10), fullClass("A"), fullClass("B", "A"), fullClass("C", "B", "A"))
	l[2].Features = append(make([]api.Feature, 0, 10), l[2].Features...)
	return l
}

// P3.10: all fields, in new memory.
func TestChangesOfFullClasses(t *testing.T) {
	l, c := fullSystem(), fullClass("D", "C")
	if !alike(l, fullSystem()) || alike(l[:1], []api.Class{class("A")}) {
		t.Fatal("the test does not see differences")
	}
	more, e := heir.Add(l, c)
	if e != api.OK || !alike(more, append(fullSystem(), fullClass("D", "C"))) {
		t.Error(more, e)
	}
	again, _ := heir.Add(l, c)
	less, e := heir.Without(l, "C")
	if e != api.OK || !alike(less, fullSystem()[:2]) {
		t.Error(less, e)
	}
	lessAgain, _ := heir.Without(l, "C")
	apart(t, l, c, more, again, less, lessAgain)
	if !alike(l, fullSystem()) || !alike([]api.Class{c}, []api.Class{fullClass("D", "C")}) || l[:4][3].Name != "" {
		t.Error("an argument is changed")
	}
}

// P3.10: no field of a class but those names is looked at.
func TestChangesOfAnyFields(t *testing.T) {
	c := class("B", "A")
	c.Features = []api.Feature{{Kind: -5, Name: "NOT A NAME"}, {Kind: -5, Name: "NOT A NAME"}}
	c.Create = names("x x")
	got, e := heir.Add(system("A"), c)
	if e != api.OK || !alike(got[1:], []api.Class{c}) {
		t.Error(got, e)
	}
}

// P3.18
func TestLawOfChanges(t *testing.T) {
	r := rand.New(rand.NewSource(318))
	for range 300 {
		l := byChance(r, 8)
		c := class("NEW")
		for _, i := range r.Perm(len(l))[:r.Intn(min(len(l), api.MaxParents)+1)] {
			c.Parents = append(c.Parents, api.Parent{Name: l[i].Name})
		}
		more, e := heir.Add(l, c)
		if e != api.OK {
			t.Fatal(l, c, e)
		}
		back, e := heir.Without(more, "NEW")
		if e != api.OK || !alike(back, l) {
			t.Fatal(l, c, back, e)
		}
		for _, x := range namesOf(l) {
			for _, y := range namesOf(l) {
				if is(t, l, x, y) != is(t, more, x, y) {
					t.Fatal(l, c, x, y)
				}
			}
		}
	}
}

// P3.18: Is for two other classes, of any class that can be left out.
func TestLawOfLeavingOut(t *testing.T) {
	r := rand.New(rand.NewSource(3181))
	for range 300 {
		l := byChance(r, 8)
		for _, c := range namesOf(l) {
			isParent := slices.ContainsFunc(l, func(x api.Class) bool { return slices.Contains(parentsOf(l, x.Name), c) })
			less, e := heir.Without(l, c)
			if isParent != (e == api.ErrClash) || !isParent && e != api.OK {
				t.Fatal(l, c, e)
			}
			for _, x := range namesOf(less) {
				for _, y := range namesOf(less) {
					if is(t, l, x, y) != is(t, less, x, y) {
						t.Fatal(l, c, x, y)
					}
				}
			}
		}
	}
}

// The results of Touched are new memory, and no argument is changed.
func TestMemoryOfTouched(t *testing.T) {
	l, changed := fullSystem(), names("C B")
	apart(t, l, changed, touched(t, l, changed), touched(t, l, changed))
	same(t, "the names", changed, names("C B"))
	if !alike(l, fullSystem()) {
		t.Error("the system is changed")
	}
}
