package mean_test

import (
	"testing"

	"cosigner/api"
	"cosigner/mean"
)

// P7.7: a system without assertions; all else remains.
func TestBare(t *testing.T) {
	t.Parallel()
	for _, x := range [][2]string{
		{"", ""},
		{"class A end", "class A end"},
		{"class A feature { ANY } x: INTEGER; invariant a: x = 1; end", "class A feature { ANY } x: INTEGER; end"},
		{"deferred class A feature { NONE, A } f (i: INTEGER): INTEGER deferred require a: i = 1; ensure b: Result = old i; end end", "deferred class A feature { NONE, A } f (i: INTEGER): INTEGER deferred end end"},
		{"class A create f feature { ANY } f require a: True; local x: detachable A; y: INTEGER do check b: True; end; put 1; check c: True; end; y := 2; check end; ensure d: True; rescue check e: True; end; retry; end end",
			"class A create f feature { ANY } f local x: detachable A; y: INTEGER do put 1; y := 2; rescue retry; end end"},
		{"class A feature { ANY } f do from check a: True; end; put 1; invariant b: True; c: False; until 1 = 2 variant 7 loop check d: True; end; put 2; from until True variant 8 loop end; end; end end",
			"class A feature { ANY } f do from put 1; until 1 = 2 loop put 2; from until True loop end; end; end end"},
		{"class A feature { ANY } f do if True then check a: True; end; put 1; else put 2; check b: True; end; end; if False then check a: True; end; else check a: True; end; end; end end",
			"class A feature { ANY } f do if True then put 1; else put 2; end; if False then end; end end"},
		{"class A feature { ANY } f (b: separate A) do separate b as c when True do check a: True; end; c.f (b); end; create x.f (b); rescue end x: A; end",
			"class A feature { ANY } f (b: separate A) do separate b as c when True do c.f (b); end; create x.f (b); rescue end x: A; end"},
		{"class A [ G: ANY, H: B ] inherit B rename a as b, c as d undefine e redefine f select g; C [ G, LIST [ H ] ] undefine k; create m, n feature { ANY } f: detachable separate LIST [ LIST [ G ] ] do end invariant a: True; end",
			"class A [ G: ANY, H: B ] inherit B rename a as b, c as d undefine e redefine f select g; C [ G, LIST [ H ] ] undefine k; create m, n feature { ANY } f: detachable separate LIST [ LIST [ G ] ] do end end"},
	} {
		l, want := system(t, x[0]), system(t, x[1])
		before := copied(l)
		got := mean.Bare(l)
		if !alike(got, want) {
			t.Errorf("%v, want %v", textOf(got), x[1])
		}
		if !alike(l, before) {
			t.Error("changed", x[0])
		}
		apart(t, l, got)
		if again := mean.Bare(got); !alike(again, got) {
			t.Error(textOf(again), textOf(got))
		}
	}
	if got := mean.Bare(nil); len(got) != 0 {
		t.Error(got)
	}
}

// P7.7: Tags go wherever they stand, and what is no system has a bare form, too.
func TestBareTrees(t *testing.T) {
	t.Parallel()
	tags := []api.Clause{{Tag: "a", Expr: integer(1)}}
	put := api.Stmt{Kind: api.StPut, N: 4, Name: "x", Exprs: []api.Expr{integer(1), integer(2)}, Tags: tags}
	check := api.Stmt{Kind: api.StCheck, Body: []api.Stmt{put}}
	loop := api.Stmt{Kind: api.StLoop, Init: []api.Stmt{check, put}, Exprs: []api.Expr{integer(1), integer(2)}, Body: []api.Stmt{put, check}, Else: []api.Stmt{check, put, check}}
	alone := api.Stmt{Kind: api.StLoop, Exprs: []api.Expr{integer(1)}}
	l := []api.Class{{Name: "x"}, {Name: "x", Features: []api.Feature{{Kind: 9, Name: "F", Require: tags, Ensure: tags, Body: []api.Stmt{put, loop, check}, Rescue: []api.Stmt{check, {Kind: api.StLoop}, alone}}}}}
	put.Tags = nil
	loop.Init, loop.Body, loop.Else, loop.Exprs = []api.Stmt{put}, []api.Stmt{put}, []api.Stmt{put}, loop.Exprs[:1]
	want := []api.Class{{Name: "x"}, {Name: "x", Features: []api.Feature{{Kind: 9, Name: "F", Body: []api.Stmt{put, loop}, Rescue: []api.Stmt{{Kind: api.StLoop}, alone}}}}}
	if got := mean.Bare(l); !alike(got, want) {
		t.Errorf("%v, want %v", got, want)
	}
}

// P7.7: of systems by chance, nothing but assertions goes, and memory is new.
func TestBareByChance(t *testing.T) {
	t.Parallel()
	r := newChance(74)
	for range 100 {
		l := r.system()
		r.damage(l)
		before := copied(l)
		bare := mean.Bare(l)
		if !alike(l, before) {
			t.Fatal(textOf(l))
		}
		apart(t, l, bare)
		if want := withoutClauses(before); !alike(bare, want) {
			t.Fatalf("%v, want %v", textOf(bare), textOf(want))
		}
	}
}

// withoutClauses takes assertions and variants out of a system, in place.
func withoutClauses(l []api.Class) []api.Class {
	var list func(l []api.Stmt) []api.Stmt
	list = func(l []api.Stmt) []api.Stmt {
		var out []api.Stmt
		for _, s := range l {
			if s.Kind == api.StCheck {
				continue
			}
			if s.Kind == api.StLoop && len(s.Exprs) >= 2 {
				s.Exprs = s.Exprs[:1]
			}
			s.Tags = nil
			s.Init, s.Body, s.Else = list(s.Init), list(s.Body), list(s.Else)
			out = append(out, s)
		}
		return out
	}
	for i := range l {
		l[i].Invariant = nil
		for j := range l[i].Features {
			f := &l[i].Features[j]
			f.Require, f.Ensure = nil, nil
			f.Body, f.Rescue = list(f.Body), list(f.Rescue)
		}
	}
	return l
}
