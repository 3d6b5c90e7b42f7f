package mean_test

import (
	"testing"

	"cosigner/api"
	"cosigner/flat"
	"cosigner/mean"
)

// all calls a test with each function with a run, by its name; it returns what the function returns, apart from the error.
func all(test func(name string, call func(l []api.Class, class, make string, steps int) (any, api.Errno))) {
	test("Run", func(l []api.Class, class, make string, steps int) (any, api.Errno) {
		return both(mean.Run(l, class, make, steps))
	})
	test("Unchecked", func(l []api.Class, class, make string, steps int) (any, api.Errno) {
		return both(mean.Unchecked(l, class, make, steps, []int{api.FaInv}))
	})
	test("Events", func(l []api.Class, class, make string, steps int) (any, api.Errno) {
		return both(mean.Events(l, class, make, steps))
	})
	test("Blame", func(l []api.Class, class, make string, steps int) (any, api.Errno) {
		b, is, err := mean.Blame(l, class, make, steps)
		return struct {
			B  api.Blame
			Is bool
		}{b, is}, err
	})
	test("Raised", func(l []api.Class, class, make string, steps int) (any, api.Errno) {
		return both(mean.Raised(l, class, make, steps))
	})
	test("Tallies", func(l []api.Class, class, make string, steps int) (any, api.Errno) {
		return both(mean.Tallies(l, class, make, steps))
	})
	test("Depth", func(l []api.Class, class, make string, steps int) (any, api.Errno) {
		return both(mean.Depth(l, class, make, steps))
	})
	test("Objects", func(l []api.Class, class, make string, steps int) (any, api.Errno) {
		return both(mean.Objects(l, class, make, steps))
	})
}

func both[T any](x T, err api.Errno) (any, api.Errno) { return x, err }

// beginnings is a class whose features a run can begin with, or cannot.
const beginnings = "class MAIN create make feature { ANY } make do put 1; end f: INTEGER do end n: INTEGER; with (i: INTEGER) do end wrong do none; end far: separate MAIN; sep do create far.make; end end " +
	"deferred class D feature { ANY } make do end low deferred end end class E inherit D; MAIN rename make as other_make; feature { ANY } low do put 2; end end "

// P7.2 to P7.6: the errors of all functions with a run, and their order.
func TestErrors(t *testing.T) {
	t.Parallel()
	l := system(t, beginnings)
	bad := append(copied(l), api.Class{Name: "MAIN"})
	clash := append(copied(l), api.Class{Name: "Z", Parents: []api.Parent{{Name: "MAIN", Undefine: []string{"n"}}}})
	all(func(name string, call func([]api.Class, string, string, int) (any, api.Errno)) {
		for _, x := range []struct {
			l           []api.Class
			class, make string
			steps       int
			want        api.Errno
		}{
			{l, "MAIN", "make", many, api.OK},
			{l, "MAIN", "make", 2, api.OK},
			{l, "E", "low", 2, api.OK},
			{l, "E", "other_make", 2, api.OK},
			{bad, "NONE", "none", -1, api.ErrTwice},
			{clash, "NONE", "none", -1, api.ErrClash},
			{l, "NONE", "none", -1, api.ErrNone},
			{l, "ANY", "make", -1, api.ErrNone},
			{l, "", "make", 1, api.ErrNone},
			{nil, "MAIN", "make", 1, api.ErrNone},
			{l, "MAIN", "none", -1, api.ErrName},
			{l, "MAIN", "other_make", -1, api.ErrName},
			{l, "MAIN", "f", -1, api.ErrArg},
			{l, "MAIN", "f", api.MaxSteps + 1, api.ErrArg},
			{l, "MAIN", "make", -1, api.ErrArg},
			{l, "MAIN", "make", api.MaxSteps + 1, api.ErrArg},
			{l, "D", "low", -1, api.ErrArg},
			{l, "MAIN", "f", 0, api.ErrType},
			{l, "MAIN", "n", 0, api.ErrType},
			{l, "MAIN", "with", 0, api.ErrType},
			{l, "D", "make", 0, api.ErrType},
			{l, "D", "low", 0, api.ErrType},
			{l, "MAIN", "wrong", 2, api.ErrType},
			{l, "MAIN", "wrong", 1, api.ErrSteps},
			{l, "MAIN", "sep", 1, api.ErrState},
			{l, "MAIN", "sep", 0, api.ErrSteps},
			{l, "MAIN", "make", 1, api.ErrSteps},
			{l, "MAIN", "make", 0, api.ErrSteps},
		} {
			got, err := call(x.l, x.class, x.make, x.steps)
			if err != x.want || err != api.OK && !isZero(got) {
				t.Errorf("%s of %s, %s, %d: error %d, want %d; %v", name, x.class, x.make, x.steps, err, x.want, got)
			}
		}
		// whatever is wrong with the system is told as flat.Flats tells it
		for _, broken := range [][]api.Class{bad, clash, {{Name: "x"}}, {{Name: "A", Parents: []api.Parent{{Name: "B"}}}}, {{Name: "A", Parents: []api.Parent{{Name: "A"}}}}, make([]api.Class, api.MaxClasses+1), {{Name: "A", Features: []api.Feature{{Name: "f"}}}}} {
			_, want := flat.Flats(broken)
			if got, err := call(broken, "MAIN", "make", 1); err != want || err == api.OK || !isZero(got) {
				t.Error(name, err, want, got)
			}
		}
	})
}

// P7.2: an empty body takes no step, and a run may take as many as there may be.
func TestStepLimits(t *testing.T) {
	t.Parallel()
	l := system(t, body("", ""))
	if m, err := mean.Run(l, "MAIN", "make", 0); err != api.OK || !isZero(m) {
		t.Error(m, err)
	}
	// a loop takes 1 step, 3 for until each time, and 4 within
	for more, want := range map[string]api.Meant{"": {Out: []int{142856, 142856}, Steps: api.MaxSteps}, "check end;": {}} {
		l := system(t, body("from until n = 142856 loop n := n + 1; end; put n; put n; "+more, "n: INTEGER;"))
		if m, err := mean.Run(l, "MAIN", "make", api.MaxSteps); !alike(m, want) || (err == api.OK) != (more == "") || err != api.OK && err != api.ErrSteps {
			t.Error(more, m, err)
		}
	}
}

// P7.2: what Unchecked may leave out.
func TestOff(t *testing.T) {
	t.Parallel()
	l := system(t, beginnings)
	for _, x := range []struct {
		make  string
		steps int
		off   []int
		want  api.Errno
	}{
		{"make", 2, nil, api.OK},
		{"make", 2, []int{}, api.OK},
		{"make", 2, []int{1, 2, 3, 4, 5, 6}, api.OK},
		{"make", 2, []int{6, 6, 1}, api.OK},
		{"make", 2, []int{0}, api.ErrArg},
		{"make", 2, []int{7}, api.ErrArg},
		{"make", 2, []int{-1}, api.ErrArg},
		{"make", 2, []int{1, api.FaOwn}, api.ErrArg},
		{"f", 2, []int{1, 7}, api.ErrArg},
		{"wrong", 0, []int{7}, api.ErrArg},
		{"none", 2, []int{7}, api.ErrName},
	} {
		if m, err := mean.Unchecked(l, "MAIN", x.make, x.steps, x.off); err != x.want || err != api.OK && !isZero(m) {
			t.Error(x, m, err)
		}
	}
}

// P7.2: each kind of assertions that is left out is not reckoned, and the others are.
func TestUnchecked(t *testing.T) {
	t.Parallel()
	// each assertion puts out its own number, as it calls a function, and then is False
	text := "class CELL create make feature { ANY } told: BOOLEAN; make do end see (o: MAIN; i: INTEGER): BOOLEAN do put i; Result := o.yes (i); end end " +
		mainWith("do f; put 9; from invariant l: see (5); until see (10) variant num (6) loop end; check c: see (4); end; Current.g;",
			"k: INTEGER; f require a: see (1); do put 7; ensure b: see (old num (2)); end g do put 8; end yes (i: INTEGER): BOOLEAN do Result := i /= k; end see (i: INTEGER): BOOLEAN do put i; Result := i /= k or i = 10; end num (i: INTEGER): INTEGER do put i; Result := i; end") + "class SELF inherit MAIN; create make end "
	l := system(t, text)
	main := &l[1]
	main.Invariant = []api.Clause{{Tag: "i", Expr: exprOf(t, "see (3)")}}
	for _, x := range []struct {
		off []int
		out []int
	}{
		{nil, []int{1, 2, 7, 2, 9, 5, 6, 10, 4, 3, 8, 3, 3}},
		{[]int{api.FaPre}, []int{2, 7, 2, 9, 5, 6, 10, 4, 3, 8, 3, 3}},
		{[]int{api.FaPost}, []int{1, 7, 9, 5, 6, 10, 4, 3, 8, 3, 3}},
		{[]int{api.FaInv}, []int{1, 2, 7, 2, 9, 5, 6, 10, 4, 8}},
		{[]int{api.FaCheck}, []int{1, 2, 7, 2, 9, 5, 6, 10, 3, 8, 3, 3}},
		{[]int{api.FaLoop}, []int{1, 2, 7, 2, 9, 6, 10, 4, 3, 8, 3, 3}},
		{[]int{api.FaVariant}, []int{1, 2, 7, 2, 9, 5, 10, 4, 3, 8, 3, 3}},
		{[]int{1, 2, 3, 4, 5, 6}, []int{7, 9, 10, 8}},
		{[]int{2, 5, 2}, []int{1, 7, 9, 6, 10, 4, 3, 8, 3, 3}},
	} {
		m, err := mean.Unchecked(l, "MAIN", "make", many, x.off)
		if err != api.OK || m.Fault != 0 || !alike(m.Out, x.out) {
			t.Error(x.off, m, err, x.out)
		}
	}
	// each one that is False is an exception, unless it is left out
	for fault, k := range map[int]string{api.FaPre: "1", api.FaPost: "2", api.FaInv: "3", api.FaCheck: "4", api.FaLoop: "5"} {
		l := copied(l)
		make := featureOf(t, l, "MAIN", "make")
		make.Body = append([]api.Stmt{{Kind: api.StAssign, Name: "k", Exprs: []api.Expr{exprOf(t, k)}}}, make.Body...)
		for off := api.FaPre; off <= api.FaVariant; off++ {
			want := fault
			if off == fault {
				want = 0
			}
			if m, err := mean.Unchecked(l, "MAIN", "make", many, []int{off}); err != api.OK || m.Fault != want {
				t.Error(fault, off, m, err)
			}
		}
	}
	l = system(t, mainWith("do from until n = 2 variant 0 loop n := n + 1; end; ensure a: old (1 // 0) = 0;", "n: INTEGER;"))
	for _, x := range [][2]int{{api.FaPost, api.FaVariant}, {api.FaVariant, api.FaZero}, {api.FaLoop, api.FaZero}} {
		if m, err := mean.Unchecked(l, "MAIN", "make", many, x[:1]); err != api.OK || m.Fault != x[1] {
			t.Error(x, m, err)
		}
	}
	if m, err := mean.Unchecked(l, "MAIN", "make", many, []int{api.FaVariant, api.FaPost}); err != api.OK || !alike(m, api.Meant{Steps: 1 + 3*3 + 2*4}) {
		t.Error(m, err)
	}
}

// P7.2: with FaInv an invariant is no call, so that calls may be one deeper.
func TestUncheckedDeep(t *testing.T) {
	t.Parallel()
	l := system(t, "class MAIN create make feature { ANY } n: INTEGER; make do f (62); end f (i: INTEGER) do if i > 0 then f (i - 1); else put Current.n; end; end invariant a: True; end")
	comesTo(t, l, api.OK, api.FaDeep)
	if m, err := mean.Unchecked(l, "MAIN", "make", many, []int{api.FaInv}); err != api.OK || m.Fault != 0 || !alike(m.Out, []int{0}) {
		t.Error(m, err)
	}
	if m, err := mean.Unchecked(l, "MAIN", "make", many, []int{1, 2, 4, 5, 6}); err != api.OK || m.Fault != api.FaDeep {
		t.Error(m, err)
	}
}
