package flat_test

import (
	"testing"

	"cosigner/api"
	"cosigner/flat"
)

// sameAsMeasured compares what all functions say of a system with what the measure says.
func sameAsMeasured(t *testing.T, r *chance, l []api.Class) (api.Conflict, bool) {
	t.Helper()
	m := measureOf(l)
	want, isWrong, wantErr := m.clash()
	x, is, e := flat.Clash(l)
	if x != want || is != isWrong || e != wantErr {
		t.Fatalf("%+v\n%v %t %d, want %v %t %d", l, x, is, e, want, isWrong, wantErr)
	}
	for _, c := range l {
		sameConflicts(t, r, m, c.Name)
	}
	if isWrong || wantErr != api.OK {
		return want, isWrong
	}
	flats, e := flat.Flats(l)
	if e != api.OK || !alike(flats, m.flats()) {
		t.Fatalf("%+v\n%v, want\n%v", l, flats, m.flats())
	}
	if e := flat.CheckFlats(l, m.flats()); e != api.OK {
		t.Fatal(l, e)
	}
	for _, f := range m.flats() {
		sameFlat(t, r, m, f)
	}
	return want, isWrong
}

// sameConflicts compares which conflicts of a class are accepted.
func sameConflicts(t *testing.T, r *chance, m *measure, class string) {
	t.Helper()
	all := m.conflicts(class)
	var tried []api.Conflict
	for range 3 {
		tried = append(tried, r.changed(r.changed(api.Conflict{Kind: 1 + r.Intn(14), Class: class, Name: r.name(), A: api.Origin{Parent: class, Name: r.name()}})))
	}
	for _, x := range all {
		tried = append(tried, x, r.changed(x), r.changed(r.changed(x)))
	}
	for _, x := range tried {
		if e := flat.CheckClash(m.l, x); e != m.checkClash(x) {
			t.Fatalf("%+v\n%v: %d, want %d", m.l, x, e, m.checkClash(x))
		}
	}
}

// sameFlat compares what the functions say of a class and its features.
func sameFlat(t *testing.T, r *chance, m *measure, want api.Flat) {
	t.Helper()
	f, e := flat.FlatOf(m.l, want.Name)
	if e != api.OK || !alike(f, want) {
		t.Fatalf("%v: %v %d", m.l, f, e)
	}
	c, _ := m.class(want.Name)
	var open []string
	for _, w := range want.Members {
		if w.Kind == api.FeDeferred {
			open = append(open, w.Name)
		}
		sameMember(t, r, m, c, w)
	}
	if got, e := flat.Deferred(m.l, c.Name); e != api.OK || !alike(got, open) {
		t.Fatalf("%v: %v %d", m.l, got, e)
	}
	for _, other := range m.flats() {
		for _, w := range some(r, 3, other.Members) {
			sameSeed(t, m, c.Name, pick(r, w.Seeds...))
			got, e := flat.Version(m.l, c.Name, other.Name, w.Name)
			if name, err := m.version(c.Name, other.Name, w.Name); got != name || e != err {
				t.Fatalf("%v: %s of %s in %s: %s %d, want %s %d", m.l, w.Name, other.Name, c.Name, got, e, name, err)
			}
		}
	}
}

func sameMember(t *testing.T, r *chance, m *measure, c api.Class, want api.Member) {
	t.Helper()
	got, e := flat.MemberOf(m.l, c.Name, want.Name)
	if e != api.OK || !alike(got, want) {
		t.Fatalf("%v: %v %d", m.l, got, e)
	}
	own, isOwn := declared(c, want.Name)
	var origins []api.Origin
	if isOwn {
		origins = append(origins, api.Origin{Name: own.Name})
	}
	for _, h := range m.under(c, want.Name) {
		origins = append(origins, h.origin())
	}
	if got, e := flat.Origins(m.l, c.Name, want.Name); e != api.OK || !alike(got, origins) {
		t.Fatalf("%v: %v %d", m.l, got, e)
	}
	above, _ := m.class(want.Impl.Class)
	there, _ := declared(above, want.Impl.Name)
	if f, class, e := flat.Declared(m.l, c.Name, want.Name); e != api.OK || !alike(f, there) || class != above.Name {
		t.Fatalf("%v: %v %s %d", m.l, f, class, e)
	}
	for _, client := range some(r, 5, names("A B C D E F ANY NONE X")) {
		is, e := flat.Open(m.l, c.Name, want.Name, client)
		if wantIs, err := m.open(want, client); is != wantIs || e != err {
			t.Fatalf("%v: %s of %s for %s: %t %d", m.l, want.Name, c.Name, client, is, e)
		}
	}
}

func sameSeed(t *testing.T, m *measure, class string, s api.Seed) {
	t.Helper()
	all, e1 := flat.Names(m.l, class, s)
	one, e2 := flat.Selected(m.l, class, s)
	want, selected := m.names(class, s), m.selected(class, s)
	if len(want) == 0 {
		if all != nil || one != "" || e1 != api.ErrNone || e2 != api.ErrNone {
			t.Fatalf("%v: %v in %s: %v %d %s %d", m.l, s, class, all, e1, one, e2)
		}
	} else if e1 != api.OK || e2 != api.OK || !alike(all, want) || one != selected[0] {
		t.Fatalf("%v: %v in %s: %v %d %s %d, want %v %v", m.l, s, class, all, e1, one, e2, want, selected)
	}
}

// P4.2 to P4.7, of systems by chance: all that the functions say is what the chapter's terms, read once more, say.
func TestByChance(t *testing.T) {
	t.Parallel()
	r := newChance(4, 20)
	first := map[int]int{}
	for range 1600 {
		x, _ := sameAsMeasured(t, r, r.system(5))
		first[x.Kind]++
	}
	for kind := 0; kind <= api.CnApart; kind++ {
		if first[kind] < 5 {
			t.Errorf("%d systems with a first conflict of the kind %d", first[kind], kind)
		}
	}
}
