package mean_test

import (
	"slices"
	"testing"

	"cosigner/api"
	"cosigner/flat"
	"cosigner/mean"
)

// P7.9: with more steps a run that ends comes to the same, and takes just Steps; what it puts out is told by its events, which are accepted.
func TestOneMeaning(t *testing.T) {
	t.Parallel()
	ended := 0
	runs(75, 350, func(r chance, l []api.Class, class, make string) {
		before := copied(l)
		m, err := mean.Run(l, class, make, 3000)
		if err == api.ErrType || err == api.ErrState {
			if _, more := mean.Run(l, class, make, many); more != err {
				t.Fatal(err, more, textOf(l))
			}
		}
		if err != api.OK {
			return
		}
		ended++
		for _, steps := range []int{m.Steps, m.Steps + 1, many} {
			if again, err := mean.Run(l, class, make, steps); err != api.OK || !alike(again, m) {
				t.Fatal(m, again, err, textOf(l))
			}
		}
		if m.Steps > 0 {
			if again, err := mean.Run(l, class, make, r.Intn(m.Steps)); err != api.ErrSteps || !isZero(again) {
				t.Fatal(m, again, err, textOf(l))
			}
		}
		events, err := mean.Events(l, class, make, m.Steps)
		var out []int
		for _, e := range events {
			if e.Kind == api.EvPut {
				out = append(out, e.N)
			}
		}
		if err != api.OK || !alike(out, m.Out) || mean.CheckEvents(l, events) != api.OK {
			t.Fatal(err, out, m, textOf(l))
		}
		if !alike(l, before) {
			t.Fatal("changed", textOf(before))
		}
	})
	if ended < 100 {
		t.Error(ended)
	}
}

// P7.8, P7.9: events of a run that are changed somewhere are accepted if they fit the chapter's list alone.
func TestChangedEvents(t *testing.T) {
	t.Parallel()
	accepted, refused := 0, 0
	runs(76, 250, func(r chance, l []api.Class, class, make string) {
		events, err := mean.Events(l, class, make, 2000)
		if err != api.OK || len(events) > 60 {
			return
		}
		for range 5 {
			x := slices.Clone(events)
			i := r.Intn(len(x))
			switch r.Intn(5) {
			case 0:
				x = slices.Delete(x, i, i+1)
			case 1:
				x = slices.Insert(x, i, pick(r, events...))
			case 2:
				x[i].N += pick(r, 1, -1, 100)
			case 3:
				j := r.Intn(len(x))
				x[i], x[j] = x[j], x[i]
			case 4:
				x[i] = pick(r, events...)
			}
			want := api.ErrProof
			if fitsList(l, x) {
				want = api.OK
				accepted++
			} else {
				refused++
			}
			if err := mean.CheckEvents(l, x); err != want {
				t.Fatal(err, want, x)
			}
		}
	})
	if accepted < 50 || refused < 200 {
		t.Error(accepted, refused)
	}
}

// fitsList tells whether events fit the list of P7.8: calls are paired from the innermost ones outwards.
func fitsList(l []api.Class, events []api.Event) bool {
	made := 0
	for _, e := range events {
		c := classOf(l, e.Class)
		fits := true
		switch e.Kind {
		case api.EvCall, api.EvBack:
			i := slices.IndexFunc(c.Features, func(f api.Feature) bool { return f.Name == e.Name && f.Kind == api.FeRoutine })
			fits = i >= 0 && (e.N == 0 || e.Kind == api.EvBack && (e.N >= 1 && e.N <= 13 || e.N >= 100 && e.N <= 199))
		case api.EvMade:
			fits = c.Name != "" && !c.Deferred && e.Name == "" && e.N == made
			made++
		case api.EvPut:
			fits = e.Class == "" && e.Name == "" && max(e.N, -e.N) <= api.MaxNum
		default:
			fits = false
		}
		if !fits {
			return false
		}
	}
	if len(events) == 0 || events[0].Kind != api.EvMade {
		return false
	}
	calls := slices.DeleteFunc(slices.Clone(events), func(e api.Event) bool { return e.Kind != api.EvCall && e.Kind != api.EvBack })
	for len(calls) > 0 {
		i := slices.IndexFunc(calls, func(e api.Event) bool { return e.Kind == api.EvBack })
		if i < 1 || i > api.MaxFrames || calls[i-1].Class != calls[i].Class || calls[i-1].Name != calls[i].Name {
			return false
		}
		calls = slices.Delete(calls, i-1, i+1)
	}
	return true
}

// clausesOf calls a test with the expressions of all assertions and variants of a system; isWithin tells of those that stand in bodies.
func clausesOf(l []api.Class, test func(e api.Expr, isWithin bool)) {
	clauses := func(l []api.Clause, isWithin bool) {
		for _, c := range l {
			test(c.Expr, isWithin)
		}
	}
	var list func([]api.Stmt)
	list = func(l []api.Stmt) {
		for _, s := range l {
			clauses(s.Tags, true)
			if s.Kind == api.StLoop && len(s.Exprs) > 1 {
				test(s.Exprs[1], true)
			}
			list(s.Init)
			list(s.Body)
			list(s.Else)
		}
	}
	for _, c := range l {
		clauses(c.Invariant, false)
		for _, f := range c.Features {
			clauses(f.Require, false)
			clauses(f.Ensure, false)
			list(f.Body)
			list(f.Rescue)
		}
	}
}

// areQuiet tells whether no assertion calls a routine, and none of those in bodies binds a name.
func areQuiet(l []api.Class) bool {
	routines := map[string]bool{}
	flats, _ := flat.Flats(l)
	for _, f := range flats {
		for _, m := range f.Members {
			if m.Kind != api.FeAttr {
				routines[m.Name] = true
			}
		}
	}
	are := true
	clausesOf(l, func(e api.Expr, isWithin bool) {
		var look func(api.Expr)
		look = func(e api.Expr) {
			if e.Kind == api.ExCall && routines[e.Name] || e.Kind == api.ExAttached && isWithin {
				are = false
			}
			for _, kid := range e.Kids {
				look(kid)
			}
		}
		look(e)
	})
	return are
}

// P7.10: assertions change nothing, if nothing is raised.
func TestAssertionsChangeNothing(t *testing.T) {
	t.Parallel()
	seen := 0
	runs(77, 900, func(r chance, l []api.Class, class, make string) {
		if !areQuiet(l) {
			return
		}
		m, err := mean.Run(l, class, make, 5000)
		raised, _ := mean.Raised(l, class, make, 5000)
		if err != api.OK || len(raised) > 0 {
			return
		}
		if m.Steps > 10 {
			seen++
		}
		bare, err := mean.Run(mean.Bare(l), class, make, m.Steps)
		if err != api.OK || bare.Fault != 0 || !alike(bare.Out, m.Out) || bare.Steps > m.Steps {
			t.Fatal(m, bare, err, textOf(l))
		}
		for n := range 64 {
			var off []int
			for i := range 6 {
				if n>>i&1 == 1 {
					off = append(off, api.FaPre+i)
				}
			}
			part, err := mean.Unchecked(l, class, make, m.Steps, off)
			if err != api.OK || part.Fault != 0 || !alike(part.Out, m.Out) || part.Steps > m.Steps {
				t.Fatal(off, m, part, err, textOf(l))
			}
		}
	})
	if seen < 40 {
		t.Error(seen)
	}
}

// P7.11: who is to blame for what.
func TestWhoIsToBlame(t *testing.T) {
	t.Parallel()
	sides := map[int]int{api.FaPre: api.SdClient, api.FaPost: api.SdSupplier, api.FaCheck: api.SdOwn, api.FaLoop: api.SdOwn, api.FaVariant: api.SdOwn}
	seen := map[int]int{}
	runs(78, 500, func(_ chance, l []api.Class, class, make string) {
		m, err := mean.Run(l, class, make, 3000)
		raised, e := mean.Raised(l, class, make, 3000)
		b, is, f := mean.Blame(l, class, make, 3000)
		if err != e || err != f || is != (m.Fault != 0) || b.Fault != m.Fault || is && !slices.Contains(raised, b) {
			t.Fatal(m, b, is, raised, textOf(l))
		}
		for _, b := range raised {
			if side, is := sides[b.Fault]; is && side != b.Side {
				t.Fatal(b, textOf(l))
			}
			seen[b.Fault]++
		}
	})
	for fault := range sides {
		if seen[fault] == 0 {
			t.Error(seen)
		}
	}
}

// comparison is all that is told of a run.
type comparison struct {
	Meant   api.Meant
	Events  []api.Event
	Raised  []api.Blame
	Depth   int
	Objects api.Graph
	Errs    [5]api.Errno
}

func compared(l []api.Class, class, make string, steps int) comparison {
	var c comparison
	c.Meant, c.Errs[0] = mean.Run(l, class, make, steps)
	c.Events, c.Errs[1] = mean.Events(l, class, make, steps)
	c.Raised, c.Errs[2] = mean.Raised(l, class, make, steps)
	c.Depth, c.Errs[3] = mean.Depth(l, class, make, steps)
	c.Objects, c.Errs[4] = mean.Objects(l, class, make, steps)
	return c
}

// P7.12: the order of classes, and classes that nobody names, change nothing.
func TestOtherClasses(t *testing.T) {
	t.Parallel()
	runs(79, 200, func(r chance, l []api.Class, class, make string) {
		want := compared(l, class, make, 2000)
		tallies, _ := mean.Tallies(l, class, make, 2000)
		other := append(copied(l), system(t, "class Z1 create go feature { ANY } go do put 77; end end deferred class ZZ inherit Z1 rename go as gone; feature { ANY } make deferred end invariant a: False; end")...)
		other = append(other, api.Class{Name: "ZA", Parents: []api.Parent{{Name: "ZZ"}}, Deferred: true})
		r.Shuffle(len(other), func(i, j int) { other[i], other[j] = other[j], other[i] })
		if got := compared(other, class, make, 2000); !alike(got, want) {
			t.Fatal(got, want, textOf(l))
		}
		again, _ := mean.Tallies(other, class, make, 2000)
		inOrder := slices.IsSortedFunc(again, func(a, b api.Tally) int { return place(other, a) - place(other, b) })
		slices.SortFunc(again, func(a, b api.Tally) int { return place(l, a) - place(l, b) })
		if !inOrder || !alike(again, tallies) {
			t.Fatal(again, tallies)
		}
	})
}

// place returns where the declaration of a tally stands.
func place(l []api.Class, x api.Tally) int {
	at := 0
	for _, c := range l {
		for _, f := range c.Features {
			at++
			if c.Name == x.Class && f.Name == x.Name {
				return at
			}
		}
	}
	return -1
}

// P7.13: a class whose features come from a parent of its own means the same.
func TestParents(t *testing.T) {
	t.Parallel()
	seen := 0
	runs(80, 600, func(r chance, l []api.Class, class, make string) {
		i := r.Intn(len(l))
		if len(l[i].Parents) > 0 || len(l[i].Features) == 0 {
			return
		}
		moved := copied(l)
		c := &moved[i]
		above := api.Class{Name: c.Name + "_", Deferred: true, Formals: slices.Clone(c.Formals), Features: c.Features}
		c.Features = nil
		p := api.Parent{Name: above.Name}
		for _, f := range c.Formals {
			p.Args = append(p.Args, api.Type{Kind: api.TyFormal, Name: f.Name})
		}
		c.Parents = []api.Parent{p}
		moved = append(moved, above)
		m, err := mean.Run(l, class, make, 3000)
		n, e := mean.Run(moved, class, make, 3000)
		if err != e || !alike(m, n) {
			t.Fatal(m, err, n, e, textOf(moved))
		}
		if err == api.OK && m.Steps > 5 {
			seen++
		}
		g, _ := mean.Objects(l, class, make, 3000)
		if h, _ := mean.Objects(moved, class, make, 3000); !alike(g, h) {
			t.Fatal(g, h, textOf(moved))
		}
	})
	if seen < 50 {
		t.Error(seen)
	}
}

// R6: results are new memory.
func TestNewMemory(t *testing.T) {
	t.Parallel()
	runs(81, 40, func(_ chance, l []api.Class, class, make string) {
		m, _ := mean.Run(l, class, make, 1000)
		c := compared(l, class, make, 1000)
		tallies, _ := mean.Tallies(l, class, make, 1000)
		apart(t, l, m, c, tallies, mean.Bare(l))
	})
}
