package mean_test

import (
	"testing"

	"cosigner/api"
	"cosigner/flat"
	"cosigner/mean"
)

// runs calls a test with runs of systems by chance, some of which are damaged.
func runs(seed int64, n int, test func(r chance, l []api.Class, class, make string)) {
	r := newChance(seed)
	for range n {
		r.isQuiet = r.one(3)
		l := r.system()
		if r.one(3) {
			r.damage(l)
		}
		if class, make := r.beginning(l); class != "" {
			test(r, l, class, make)
		}
	}
}

// measured carries out a run by the measure.
func measured(l []api.Class, class, make string, steps int, off []int) (*measure, ending) {
	flats, _ := flat.Flats(l)
	m := &measure{l: l, flats: flats, off: off, limit: steps, known: map[[3]string]string{}}
	return m, m.whole(class, make)
}

// errorOf returns the error of a run that ends so.
func errorOf(end ending) api.Errno {
	switch end.how {
	case wrong:
		return api.ErrType
	case farAway:
		return api.ErrState
	case tooLong:
		return api.ErrSteps
	}
	return api.OK
}

// P7.2 to P7.6: runs by chance come to what the measure says.
func TestMeasured(t *testing.T) {
	t.Parallel()
	ends, faults, sides := map[int]int{}, map[int]int{}, map[int]int{}
	runs(71, 1800, func(r chance, l []api.Class, class, make string) {
		steps := pick(r, 10, 300, 3000, 3000, 3000)
		var off []int
		for fault := range api.FaVariant {
			if r.one(8) {
				off = append(off, fault+api.FaPre)
			}
		}
		if r.one(2) {
			off = nil
		}
		x, end := measured(l, class, make, steps, off)
		m, err := mean.Unchecked(l, class, make, steps, off)
		want := api.Meant{Out: x.out, Fault: end.blame.Fault, Steps: x.steps}
		if errorOf(end) != api.OK {
			want = api.Meant{}
		}
		if err != errorOf(end) || !alike(m, want) {
			t.Fatalf("%v %v: error %d, %v; want %d, %v: %v", class, make, err, m, errorOf(end), want, textOf(l))
		}
		ends[end.how]++
		if off != nil {
			return
		}
		for _, b := range x.raised {
			faults[b.Fault]++
			sides[b.Side]++
		}
		compareAll(t, l, class, make, steps, x, end)
	})
	if ends[goesOn] < 200 || ends[raised] < 400 || ends[wrong] < 100 || ends[farAway] < 1 || ends[tooLong] < 200 || sides[api.SdClient] < 200 || sides[api.SdSupplier] < 30 || sides[api.SdOwn] < 400 {
		t.Error(ends, sides)
	}
	for _, fault := range []int{api.FaPre, api.FaPost, api.FaInv, api.FaCheck, api.FaLoop, api.FaVariant, api.FaOver, api.FaZero, api.FaDeep, api.FaVoid, api.FaFull} {
		if faults[fault] == 0 {
			t.Error(fault, faults)
		}
	}
}

// compareAll compares all that is told of a run.
func compareAll(t *testing.T, l []api.Class, class, make string, steps int, x *measure, end ending) {
	t.Helper()
	err := errorOf(end)
	tallies := map[api.Seed]int{}
	for _, s := range x.begun {
		tallies[s]++
	}
	var sorted []api.Tally
	for _, c := range l {
		for _, f := range c.Features {
			if n := tallies[api.Seed{Class: c.Name, Name: f.Name}]; n > 0 {
				sorted = append(sorted, api.Tally{Class: c.Name, Name: f.Name, Times: n})
			}
		}
	}
	check := func(what string, got any, e api.Errno, want any) {
		t.Helper()
		if e != err || err == api.OK && !alike(got, want) || err != api.OK && !isZero(got) {
			t.Fatalf("%s of %v %v: error %d, %v; want %d, %v: %v", what, class, make, e, got, err, want, textOf(l))
		}
	}
	m, e := mean.Run(l, class, make, steps)
	check("Run", m, e, api.Meant{Out: x.out, Fault: end.blame.Fault, Steps: x.steps})
	b, is, e := mean.Blame(l, class, make, steps)
	check("Blame", b, e, end.blame)
	check("whether Blame", is, e, end.how == raised)
	d, e := mean.Depth(l, class, make, steps)
	check("Depth", d, e, x.deepest)
	tl, e := mean.Tallies(l, class, make, steps)
	check("Tallies", tl, e, sorted)
	o, e := mean.Objects(l, class, make, steps)
	check("Objects", o, e, x.graph())
	v, e := mean.Events(l, class, make, steps)
	check("Events", v, e, x.events)
	f, e := mean.Raised(l, class, make, steps)
	check("Raised", f, e, x.raised)
}
