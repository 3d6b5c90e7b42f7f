package sure_test

import (
	"reflect"
	"slices"
	"testing"

	"cosigner/api"
	"cosigner/sure"
)

// compare checks all functions with a system against the measure; only tells whether a node is asked for.
func compare(t *testing.T, l []api.Class, only func() bool) {
	t.Helper()
	m, err := measureOf(l)
	faults, got := sure.Faults(l)
	if got != err {
		t.Fatalf("%d, want %d: %v", got, err, textOf(l))
	}
	if err != api.OK {
		return
	}
	want := m.faults()
	if !alike(faults, want) {
		t.Fatalf("%v, want %v: %v", faults, want, textOf(l))
	}
	first := api.OK
	if len(want) > 0 {
		first = want[0].Err
	}
	if err := sure.Check(l); err != first {
		t.Fatalf("%d, want %d: %v", err, first, textOf(l))
	}
	for _, c := range l {
		names, err := sure.Needs(l, c.Name)
		same(t, l, c.Name+" needs", names, m.needs(c.Name), err, api.OK)
		for _, f := range c.Features {
			if only() {
				compareFeature(t, m, c.Name, f.Name, only)
			}
		}
		for _, x := range m.flat(c.Name).Members {
			if only() {
				compareMember(t, m, c.Name, x)
			}
		}
	}
}

// same checks that a result is what it must be.
func same[T any](t *testing.T, l []api.Class, what string, got, want T, err, wanted api.Errno) {
	t.Helper()
	if err != wanted || !alike(got, want) {
		t.Fatalf("%s: %v (%d), want %v (%d): %v", what, got, err, want, wanted, textOf(l))
	}
}

func compareFeature(t *testing.T, m measure, class, feature string, only func() bool) {
	t.Helper()
	j, wrong := m.judged(class, feature, "")
	want, what := api.OK, class+" "+feature
	if wrong != nil {
		want, j = wrong.err, &judge{}
	}
	n, err := sure.Nodes(m.l, class, feature)
	same(t, m.l, what+": nodes", n, len(j.notes), err, want)
	uses, err := sure.Uses(m.l, class, feature)
	same(t, m.l, what+": uses", uses, j.uses(), err, want)
	names, err := sure.Names(m.l, class, feature)
	same(t, m.l, what+": names", names, j.names(), err, want)
	for at := -1; at <= len(j.notes); at++ {
		if !only() {
			continue
		}
		x, noType, noSet := note{}, want, want
		if at >= 0 && at < len(j.notes) {
			x = j.notes[at]
		} else if want == api.OK {
			noSet = api.ErrNone
		}
		if want == api.OK && !x.isExpr {
			noType = api.ErrNone
		}
		typed, err := sure.TypeOf(m.l, class, feature, at)
		same(t, m.l, what+": type", typed, x.typed, err, noType)
		set, err := sure.Set(m.l, class, feature, at)
		same(t, m.l, what+": set", set, x.set, err, noSet)
	}
}

func compareMember(t *testing.T, m measure, class string, x api.Member) {
	t.Helper()
	what := class + " " + x.Name
	for _, c := range m.l {
		is, err := sure.Visible(m.l, c.Name, class, x.Name)
		same(t, m.l, what+": visible", is, (&judge{l: m.l}).isClient(c.Name, x), err, api.OK)
	}
	err, at, other := sure.Makes(m.l, class, x.Name)
	want, node, fault := api.OK, 0, api.OK
	if x.Kind != api.FeRoutine {
		want, node = api.ErrName, -1
	} else if _, wrong := m.judged(x.Impl.Class, x.Impl.Name, ""); wrong != nil {
		fault = wrong.err
	} else if wrong := m.makes(class, x); wrong != nil {
		want, node = wrong.err, wrong.at
	}
	same(t, m.l, what+": makes", []int{int(err), at}, []int{int(want), node}, other, fault)
}

func always() bool { return true }

// P6.1 to P6.7, of systems by chance.
func TestMeasure(t *testing.T) {
	t.Parallel()
	r := newChance(61)
	faults, without := map[api.Errno]int{}, 0
	for range 150 {
		l := r.system(5)
		compare(t, l, func() bool { return r.one(3) })
		for _, f := range faultsOf(t, l) {
			faults[f.Err]++
		}
		if sure.Check(l) == api.OK {
			without++
		}
	}
	if without < 20 || faults[api.ErrType] < 50 || faults[api.ErrVoid] < 20 || faults[api.ErrArg] < 10 {
		t.Error(without, faults)
	}
}

// P6.1 to P6.7, of systems in which something is changed.
func TestMeasureOfDamage(t *testing.T) {
	t.Parallel()
	r := newChance(62)
	founded := 0
	seen := map[api.Errno]int{}
	var whole []api.Class
	for i := range 1200 {
		if i%4 == 0 {
			whole = r.system(4)
		}
		l := copied(whole)
		for range 1 + r.Intn(3) {
			r.damage(l)
		}
		compare(t, l, func() bool { return r.one(12) })
		if isFounded(l) {
			founded++
			for _, f := range faultsOf(t, l) {
				seen[f.Err]++
			}
		}
	}
	if founded < 700 || len(seen) < 9 {
		t.Error(founded, seen)
	}
}

// damage changes something somewhere in a class.
func (r chance) damage(l []api.Class) {
	var places []reflect.Value
	c := reflect.ValueOf(&l[r.Intn(len(l))]).Elem()
	for _, field := range []string{"Features", "Features", "Features", "Features", "Features", "Invariant", "Create", "Parents", "Deferred"} {
		if v := c.FieldByName(field); r.one(3) {
			places = append(places, within(v)...)
		}
	}
	if len(places) > 0 {
		r.change(l, places[r.Intn(len(places))])
	}
}

// within returns all values within a value.
func within(v reflect.Value) []reflect.Value {
	out := []reflect.Value{v}
	switch v.Kind() {
	case reflect.Slice:
		for i := range v.Len() {
			out = append(out, within(v.Index(i))...)
		}
	case reflect.Struct:
		out = nil
		for i := range v.NumField() {
			out = append(out, within(v.Field(i))...)
		}
	}
	return out
}

// change changes a value.
func (r chance) change(l []api.Class, v reflect.Value) {
	switch v.Kind() {
	case reflect.String:
		v.SetString(r.word(l))
	case reflect.Bool:
		v.SetBool(!v.Bool())
	case reflect.Int:
		v.SetInt(pick(r, v.Int()+1, v.Int()-1, int64(r.Intn(12)), 99, 100, api.MaxNum+1))
	case reflect.Slice:
		n := v.Len()
		switch r.Intn(4) {
		case 0: // one less
			if n > 0 {
				i := r.Intn(n)
				v.Set(reflect.AppendSlice(deepCopy(v.Slice(0, i)), v.Slice(i+1, n)))
			}
		case 1: // one twice, somewhere
			if n > 0 {
				x := deepCopy(v.Index(r.Intn(n)))
				v.Set(reflect.Append(v, x))
				r.swap(v)
			}
		case 2:
			r.swap(v)
		default: // a list from elsewhere
			if other := r.lists(l, v.Type()); len(other) > 0 {
				v.Set(deepCopy(other[r.Intn(len(other))]))
			}
		}
	}
}

func (r chance) swap(v reflect.Value) {
	if v.Len() > 1 {
		reflect.Swapper(v.Interface())(r.Intn(v.Len()), r.Intn(v.Len()))
	}
}

// lists returns all lists of a type in a system.
func (r chance) lists(l []api.Class, of reflect.Type) []reflect.Value {
	return slices.DeleteFunc(within(reflect.ValueOf(l)), func(v reflect.Value) bool { return v.Type() != of })
}

// word returns a name, mostly one of the system's.
func (r chance) word(l []api.Class) string {
	var names []string
	for _, v := range within(reflect.ValueOf(l)) {
		if v.Kind() == reflect.String {
			names = append(names, v.String())
		}
	}
	return pick(r, pick(r, names...), pick(r, names...), "Result", "and", "implies", "=", "", "x1", "X", "ANY", "NONE", "G", "do")
}
