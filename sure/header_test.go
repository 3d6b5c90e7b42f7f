package sure_test

import (
	"fmt"
	"strings"
	"testing"

	"cosigner/api"
)

// P6.2: fields that a kind does not use.
func TestFormsOfFeatures(t *testing.T) {
	truth := api.Expr{Kind: api.ExBool, N: 1}
	wrong := []api.Clause{{Tag: "", Expr: api.Expr{}}}
	clauses := []api.Clause{{Tag: "a", Expr: truth}}
	local := []api.Var{{Name: "V", Type: api.Type{Kind: api.TyClass, Name: "NONSENSE"}}}
	bodies := []api.Stmt{{Kind: api.StRaise}}
	changes := map[string]func(*api.Feature){
		"require": func(f *api.Feature) { f.Require = clauses },
		"wrong":   func(f *api.Feature) { f.Require = wrong },
		"ensure":  func(f *api.Feature) { f.Ensure = clauses },
		"locals":  func(f *api.Feature) { f.Locals = local },
		"body":    func(f *api.Feature) { f.Body = bodies },
		"rescue":  func(f *api.Feature) { f.Rescue = bodies },
		"rescues": func(f *api.Feature) { f.Rescues = true },
		"both":    func(f *api.Feature) { f.Rescues, f.Rescue = true, bodies },
		"clients": func(f *api.Feature) { f.Clients = nil },
	}
	for name, change := range changes {
		want := api.ErrForm
		if name == "clients" {
			want = api.OK
		}
		checkForms(t, "f: INTEGER;", []form{{change, want, -1}})
		checkForms(t, "f: NONSENSE;", []form{{change, first(want, api.ErrNone), -1}})
	}
	for name, want := range map[string]api.Errno{"require": api.OK, "ensure": api.OK, "body": api.OK, "rescue": api.ErrForm, "rescues": api.OK, "both": api.OK} {
		checkForms(t, "f do end", []form{{changes[name], want, -1}})
	}
	for name, change := range changes {
		l := system(t, "deferred class A feature { ANY } f deferred end end")
		f := featureOf(t, l, "A", "f")
		change(f)
		got := faultsOf(t, l)
		switch {
		case isIn(name, "require ensure clients"):
			if len(got) != 0 {
				t.Error(name, got)
			}
		case name == "wrong":
			if len(got) != 1 || got[0].At != 0 || got[0].Err != api.ErrName {
				t.Error(name, got)
			}
		case len(got) != 1 || got[0] != api.Fault{Class: "A", Feature: "f", At: -1, Err: api.ErrForm}:
			t.Error(name, got)
		}
	}
}

// vars returns variables with a type each.
func vars(letter string, n int) []api.Var {
	var out []api.Var
	for i := range n {
		out = append(out, api.Var{Name: fmt.Sprint(letter, i), Type: api.Type{Kind: api.TyInt}})
	}
	return out
}

// sum returns an expression that is nested so deep.
func sum(deep int) api.Expr {
	e := api.Expr{Kind: api.ExInt, N: 1}
	for range deep - 1 {
		e = api.Expr{Kind: api.ExUn, Name: "-", Kids: []api.Expr{e}}
	}
	return e
}

// puts returns statements with so many nodes, at least 2 and not just 3.
func puts(n int) []api.Stmt {
	var out []api.Stmt
	for ; n >= 2; n -= 2 {
		deep := 1
		if n == 3 {
			deep, n = 2, 2
		}
		out = append(out, api.Stmt{Kind: api.StPut, Exprs: []api.Expr{sum(deep)}})
	}
	return out
}

// within returns a change that puts an expression, which is nested, within ifs.
func ifs(deep int) func(*api.Feature) {
	return func(f *api.Feature) {
		f.Body = []api.Stmt{{Kind: api.StRaise}}
		for i := range deep - 1 {
			s := api.Stmt{Kind: api.StIf, Exprs: []api.Expr{{Kind: api.ExBool}}, Body: f.Body}
			if i%2 == 0 {
				s = api.Stmt{Kind: api.StIf, Exprs: []api.Expr{{Kind: api.ExBool}}, Else: f.Body}
			}
			f.Body = []api.Stmt{s}
		}
	}
}

// P6.2: limits, at them and one beyond.
func TestLimits(t *testing.T) {
	equal := func(deep int) []api.Clause { // one deeper than its operand
		return []api.Clause{{Tag: "a", Expr: api.Expr{Kind: api.ExBin, Name: "=", Kids: []api.Expr{sum(deep - 1), {Kind: api.ExInt}}}}}
	}
	checkForms(t, "f do end", []form{
		{func(f *api.Feature) { f.Args = vars("v", api.MaxVars) }, api.OK, 0},
		{func(f *api.Feature) { f.Args = vars("v", api.MaxVars+1) }, api.ErrLimit, -1},
		{func(f *api.Feature) { f.Locals = vars("v", api.MaxVars) }, api.OK, 0},
		{func(f *api.Feature) { f.Locals = vars("v", api.MaxVars+1) }, api.ErrLimit, -1},
		{func(f *api.Feature) { f.Args, f.Locals = vars("v", api.MaxVars), vars("w", api.MaxVars) }, api.OK, 0},
		{func(f *api.Feature) { f.Args = append(vars("V", 1), vars("v", api.MaxVars)...) }, api.ErrLimit, -1},
		{func(f *api.Feature) { f.Body = puts(api.MaxParts) }, api.OK, 0},
		{func(f *api.Feature) { f.Body = puts(api.MaxParts + 1) }, api.ErrLimit, -1},
		{func(f *api.Feature) { f.Rescue, f.Rescues = puts(api.MaxParts+1), true }, api.ErrLimit, -1},
		{func(f *api.Feature) {
			f.Require, f.Body, f.Ensure, f.Rescue, f.Rescues = equal(10), puts(1000), equal(20), puts(api.MaxParts-1000-11-21), true
		}, api.OK, 0},
		{func(f *api.Feature) {
			f.Require, f.Body, f.Ensure, f.Rescue, f.Rescues = equal(10), puts(1001), equal(20), puts(api.MaxParts-1000-11-21), true
		}, api.ErrLimit, -1},
		{put(sum(api.MaxNest - 1)), api.OK, 0},
		{put(sum(api.MaxNest)), api.ErrLimit, -1},
		{func(f *api.Feature) { f.Require = equal(api.MaxNest) }, api.OK, 0},
		{func(f *api.Feature) { f.Require = equal(api.MaxNest + 1) }, api.ErrLimit, -1},
		{func(f *api.Feature) { f.Ensure = equal(api.MaxNest) }, api.OK, 0},
		{func(f *api.Feature) { f.Ensure = equal(api.MaxNest + 1) }, api.ErrLimit, -1},
		{body(api.Stmt{Kind: api.StCheck, Tags: equal(api.MaxNest - 1)}), api.OK, 0},
		{body(api.Stmt{Kind: api.StCheck, Tags: equal(api.MaxNest)}), api.ErrLimit, -1},
		{ifs(api.MaxNest), api.OK, 0},
		{ifs(api.MaxNest + 1), api.ErrLimit, -1},
		{func(f *api.Feature) {
			ifs(api.MaxNest - 1)(f)
			f.Body = []api.Stmt{{Kind: api.StLoop, Exprs: []api.Expr{{Kind: api.ExBool}}, Init: f.Body}}
		}, api.OK, 0},
		{func(f *api.Feature) {
			ifs(api.MaxNest)(f)
			f.Body = []api.Stmt{{Kind: api.StLoop, Exprs: []api.Expr{{Kind: api.ExBool}}, Init: f.Body}}
		}, api.ErrLimit, -1},
		{func(f *api.Feature) {
			ifs(api.MaxNest)(f)
			f.Body = []api.Stmt{{Kind: api.StSep, Name: "v", Exprs: []api.Expr{{Kind: api.ExCall, Name: "s"}}, Body: f.Body}}
		}, api.ErrLimit, -1},
		// What is no node of a statement does not count; it has another fault.
		{func(f *api.Feature) {
			ifs(api.MaxNest + 1)(f)
			f.Body = []api.Stmt{{Kind: api.StLoop, Exprs: []api.Expr{{Kind: api.ExBool}}, Else: f.Body}}
		}, api.ErrForm, 0},
		{func(f *api.Feature) {
			ifs(api.MaxNest + 1)(f)
			f.Body = []api.Stmt{{Kind: api.StSep, Name: "v", Exprs: []api.Expr{{Kind: api.ExBool}}, Init: f.Body}}
		}, api.ErrForm, 0},
		{func(f *api.Feature) {
			f.Body = []api.Stmt{{Kind: api.StSep, Name: "v", Exprs: []api.Expr{{Kind: api.ExBool}}, Tags: equal(50)}}
		}, api.ErrForm, 0},
		{func(f *api.Feature) { f.Body = []api.Stmt{{Kind: api.StRaise, Else: puts(api.MaxParts)}} }, api.ErrLimit, -1},
	})
	// Statements without expressions are nested, too, though they have another fault.
	bare := func(deep int) func(*api.Feature) {
		return func(f *api.Feature) {
			f.Body = []api.Stmt{{Kind: api.StRaise}}
			for range deep - 1 {
				f.Body = []api.Stmt{{Kind: api.StIf, Body: f.Body}}
			}
			f.Rescue, f.Rescues = f.Body, true
		}
	}
	rescue := func(e api.Expr) func(*api.Feature) {
		return func(f *api.Feature) { put(e)(f); f.Rescue, f.Body, f.Rescues = f.Body, nil, true }
	}
	checkForms(t, "f do end", []form{
		{bare(api.MaxNest), api.ErrForm, 0},
		{bare(api.MaxNest + 1), api.ErrLimit, -1},
		{rescue(sum(api.MaxNest - 1)), api.OK, 0},
		{rescue(sum(api.MaxNest)), api.ErrLimit, -1},
	})
	// A tree whose parts are the same memory has many nodes, but is not large.
	e := api.Expr{Kind: api.ExInt}
	for range 60 {
		e = api.Expr{Kind: api.ExBin, Name: "+", Kids: []api.Expr{e, e}}
	}
	l := system(t, strings.Replace(base, "%", "f do end", 1))
	put(e)(featureOf(t, l, "MAIN", "f"))
	if got := faultsOf(t, l); len(got) != 1 || got[0].Err != api.ErrLimit {
		t.Error(got)
	}
}

// P6.2: nodes are counted in each part of a statement that has nodes, and in no other one.
func TestLimitsOfParts(t *testing.T) {
	truth := api.Expr{Kind: api.ExBool}
	large := make([]api.Expr, api.MaxParts)
	tags := make([]api.Clause, api.MaxParts)
	for i := range large {
		large[i], tags[i] = truth, api.Clause{Tag: "a", Expr: truth}
	}
	parts := map[string]func(*api.Stmt){
		"exprs": func(s *api.Stmt) { s.Exprs = large },
		"tags":  func(s *api.Stmt) { s.Tags = tags },
		"init":  func(s *api.Stmt) { s.Init = puts(api.MaxParts) },
		"body":  func(s *api.Stmt) { s.Body = puts(api.MaxParts) },
		"else":  func(s *api.Stmt) { s.Else = puts(api.MaxParts) },
	}
	not := map[int]string{api.StLoop: "else", api.StSep: "tags init else"}
	var l []form
	for kind := api.StAssign - 1; kind <= api.StPut+1; kind++ {
		for name, add := range parts {
			s := api.Stmt{Kind: kind}
			add(&s)
			if isIn(name, not[kind]) {
				l = append(l, form{body(s), api.ErrForm, 0})
			} else {
				l = append(l, form{body(s), api.ErrLimit, -1})
			}
		}
	}
	checkForms(t, "f do end", l)
}

// P6.2: arguments, locals and types.
func TestVariables(t *testing.T) {
	checkRules(t, met("f (x: INTEGER; y: detachable LIST [G]) local z: separate BOX; w: H; u: BOOLEAN do end"))
	integer, none := api.Type{Kind: api.TyInt}, api.Type{}
	object := func(name string, args ...api.Type) api.Type {
		return api.Type{Kind: api.TyClass, Name: name, Args: args}
	}
	deep := object("BOX")
	for range api.MaxNest {
		deep = object("LIST", deep)
	}
	types := map[api.Errno][]api.Type{
		api.OK:       {object("BOX"), object("LIST", object("BOX")), {Kind: api.TyFormal, Name: "G", Void: true}, deep.Args[0], object("ANY")},
		api.ErrNone:  {object("NONSENSE"), {Kind: api.TyFormal, Name: "K"}},
		api.ErrType:  {none, object("LIST"), object("BOX", object("BOX")), object("LIST", integer)},
		api.ErrForm:  {{Kind: api.TyInt, Void: true}, {Kind: 9}, {Kind: api.TyNone, Sep: true}, {Kind: api.TyFormal, Name: "G", Sep: true}},
		api.ErrLimit: {deep},
	}
	var l []form
	both := func(want api.Errno, ahead, v api.Var) {
		l = append(l,
			form{func(f *api.Feature) { f.Args = []api.Var{ahead, v} }, want, -1},
			form{func(f *api.Feature) { f.Locals = []api.Var{ahead, v} }, want, -1},
			form{func(f *api.Feature) { f.Args, f.Locals = []api.Var{ahead}, []api.Var{v} }, want, -1},
		)
	}
	v := api.Var{Name: "v", Type: integer}
	for want, list := range types {
		for _, x := range list {
			both(want, v, api.Var{Name: "w", Type: x})
			both(api.ErrName, v, api.Var{Name: "W", Type: x})
			both(api.ErrTwice, v, api.Var{Name: "v", Type: x})
			both(api.ErrTwice, v, api.Var{Name: "n", Type: x})
			both(api.ErrTwice, v, api.Var{Name: "f", Type: x})
			both(first(want, api.ErrName), api.Var{Name: "w", Type: x}, api.Var{Name: "1", Type: x})
			if x.Kind != api.TyNone { // of such ones package flat takes care
				l = append(l, form{func(f *api.Feature) { f.Kind, f.Type = api.FeAttr, x }, want, -1})
			}
			if want != api.OK { // a variable is wrong ahead of the result, and this ahead of what is within
				l = append(l, form{func(f *api.Feature) { f.Locals, f.Type = []api.Var{{Name: "V"}}, x }, api.ErrName, -1})
			}
			if want != api.OK && x.Kind != api.TyNone {
				l = append(l, form{func(f *api.Feature) { f.Type, f.Body = x, []api.Stmt{{}} }, want, -1})
			}
		}
	}
	for _, name := range []string{"", "V", "9", "end", "void", "result", "v-w", "aaaaaaaaaaaaaaaaaaaaa"} {
		both(api.ErrName, v, api.Var{Name: name, Type: integer})
	}
	both(api.ErrTwice, v, api.Var{Name: "zero", Type: integer})
	both(api.ErrTwice, v, api.Var{Name: "calm", Type: integer})
	both(api.OK, v, api.Var{Name: "aaaaaaaaaaaaaaaaaaaa", Type: integer})
	l = append(l, form{func(f *api.Feature) {
		f.Args, f.Locals = []api.Var{{Name: "v", Type: object("NONSENSE")}}, []api.Var{{Name: "V", Type: integer}}
	}, api.ErrNone, -1})
	checkForms(t, "f do end", l)
}

// P6.2: a formal of one class says nothing of another class.
func TestFormalsOfClasses(t *testing.T) {
	l := system(t, `
class BOX end
class A [G: BOX, H: ANY] feature { ANY } x: G; y: H; f: BOX do Result := x; end g (a: A [G, H]): G do Result := a.x; end end
class B [H: BOX, G: ANY] feature { ANY } x: G; y: H; f: BOX do Result := x; end g (a: A [H, G]): H do Result := a.x; end end
class C [K: ANY] feature { ANY } x: K; end
class D [L: ANY] feature { ANY } x: L; end`)
	featureOf(t, l, "D", "x").Type.Name = "K"
	want := []api.Fault{{Class: "B", Feature: "f", At: 0, Err: api.ErrType}, {Class: "D", Feature: "x", At: -1, Err: api.ErrNone}}
	if got := faultsOf(t, l); !alike(got, want) {
		t.Error(got)
	}
}

// P6.2: results of features that are inherited, too.
func TestInherited(t *testing.T) {
	const text = `
deferred class P [G: ANY] feature { ANY } x: P [G] deferred end y: G deferred end z: detachable ANY deferred end w deferred end u: INTEGER do end end
class Q inherit P [Q]; end
class R inherit P [R] redefine u; end
class S [K: ANY] inherit P [K] rename x as old_x; end`
	set := "x: P [Q] do Result := Current; end y: Q do Result := Current; end z: ANY do Result := Current; end w do end"
	for _, c := range []struct {
		features string
		want     api.Errno
		name     string
	}{
		{set, api.OK, ""},
		{strings.Replace(set, "x: P", "x: detachable P", 1), api.ErrType, "x"},
		{strings.Replace(set, "x: P [Q]", "x: Q", 1), api.OK, ""},
		{strings.Replace(set, "x: P [Q]", "x: P [R]", 1), api.ErrType, "x"},
		{strings.Replace(set, "x: P [Q]", "x: separate P [Q]", 1), api.ErrType, "x"},
		{strings.Replace(set, "x: P [Q]", "x: INTEGER", 1), api.ErrType, "x"},
		{strings.Replace(set, "y: Q", "y: ANY", 1), api.ErrType, "y"},
		{strings.Replace(set, "y: Q do Result := Current; end", "y: Q;", 1), api.OK, ""},
		{strings.Replace(set, "y: Q do Result := Current; end", "y: ANY;", 1), api.ErrType, "y"},
		{strings.Replace(set, "z: ANY", "z: detachable Q", 1), api.OK, ""},
		{strings.Replace(set, "z: ANY", "z: R", 1), api.OK, ""},
		{strings.Replace(set, "z: ANY", "z: separate R", 1), api.ErrType, "z"},
		{strings.Replace(set, "z: ANY", "z: NONSENSE", 1), api.ErrNone, "z"},
	} {
		l := system(t, strings.Replace(text, "class Q inherit P [Q];", "class Q inherit P [Q]; feature { ANY } "+c.features, 1))
		l = append(l[:2:2], l[3])
		l[2].Deferred = true
		if strings.Contains(c.features, "R") {
			l = append(l, api.Class{Name: "R"})
		}
		var got []api.Fault
		for _, f := range faultsOf(t, l) {
			if f.At < 0 {
				got = append(got, f)
			}
		}
		var want []api.Fault
		if c.want != api.OK {
			want = []api.Fault{{Class: "Q", Feature: c.name, At: -1, Err: c.want}}
		}
		if !alike(got, want) {
			t.Errorf("%s: %v, want %v", c.features, got, want)
		}
	}
	// A new name counts, and each of several parents.
	for text, want := range map[string]api.Errno{
		"deferred class A feature { ANY } a: BOX deferred end end class BOX end class B inherit A rename a as b; feature { ANY } b: BOX; end":                                                                                                                      api.OK,
		"deferred class A feature { ANY } a: BOX deferred end end class BOX end class B inherit A rename a as b; feature { ANY } b: ANY; end":                                                                                                                      api.ErrType,
		"deferred class A feature { ANY } a: BOX deferred end end class BOX end deferred class B inherit A rename a as b; feature { ANY } a: ANY; end":                                                                                                             api.OK,
		"deferred class A feature { ANY } a: ANY deferred end end deferred class C feature { ANY } c: BOX deferred end end class BOX end class B inherit A; C rename c as a; feature { ANY } a: ANY; end":                                                          api.ErrType,
		"deferred class A feature { ANY } a: ANY deferred end end deferred class C feature { ANY } c: BOX deferred end end class BOX end class B inherit A; C rename c as a; feature { ANY } a: BOX; end":                                                          api.OK,
		"deferred class A feature { ANY } a: INTEGER deferred end end class B inherit A; feature { ANY } a: INTEGER; end":                                                                                                                                          api.OK,
		"deferred class A feature { ANY } a: INTEGER deferred end end class B inherit A; feature { ANY } a: BOOLEAN; end":                                                                                                                                          api.ErrType,
		"class A feature { ANY } a do end end class B inherit A redefine a; feature { ANY } a do end end":                                                                                                                                                          api.OK,
		"deferred class A feature { ANY } a: BOX deferred end end deferred class C inherit A; feature { ANY } b: ANY deferred end end class BOX end deferred class D inherit C rename a as b, b as a; feature { ANY } a: ANY deferred end b: BOX deferred end end": api.OK,
	} {
		l := system(t, text)
		name := "a"
		if strings.Contains(text, "as b; feature { ANY } b") {
			name = "b"
		}
		var all []api.Fault
		if want != api.OK {
			all = []api.Fault{{Class: "B", Feature: name, At: -1, Err: want}}
		}
		if got := faultsOf(t, l); !alike(got, all) {
			t.Errorf("%s: %v, want %v", text, got, all)
		}
	}
}

// P6.1: the class itself.
func TestClassItself(t *testing.T) {
	for _, c := range []struct {
		create string
		defers bool
		want   api.Errno
	}{
		{"", false, api.OK}, {"", true, api.OK},
		{"make", false, api.OK}, {"make again", false, api.OK},
		{"make", true, api.ErrState}, {"none make", true, api.ErrState},
		{"make make", false, api.ErrTwice}, {"make again make none", false, api.ErrTwice},
		{"none", false, api.ErrName}, {"none none", false, api.ErrName}, {"make make none", false, api.ErrTwice}, {"none make make", false, api.ErrName},
		{"n", false, api.ErrName}, {"get", false, api.ErrName}, {"put_in", false, api.OK}, {"", false, api.OK},
	} {
		l := system(t, "class P feature { ANY } again do end end class A inherit P; feature { ANY } n: INTEGER; make do end get: INTEGER do end put_in (x: INTEGER) do end end")
		l[1].Create, l[1].Deferred = strings.Fields(c.create), c.defers
		var want []api.Fault
		if c.want != api.OK {
			want = []api.Fault{{Class: "A", At: -1, Err: c.want}}
		}
		if got := faultsOf(t, l); !alike(got, want) {
			t.Errorf("%s: %v, want %v", c.create, got, want)
		}
	}
	l := system(t, "deferred class A feature { ANY } make (x: ANY) deferred require a: x = Current; end end class B inherit A; feature { ANY } make (x: ANY) do end end")
	l[0].Create = []string{"make"}
	if got := faultsOf(t, l); !alike(got, []api.Fault{{Class: "A", At: -1, Err: api.ErrState}}) {
		t.Error(got)
	}
}

// P6.2: invariants.
func TestInvariants(t *testing.T) {
	for text, want := range map[string]api.Fault{
		"a: n = 1; b: p.n = n;":                             {},
		"a: attached q as v implies v.n = 1; b: q /= Void;": {},
		"a: Current = p; b: attached q as v and v.n = 1;":   {},
		"a: n;":          {At: 0, Err: api.ErrType},
		"a: t; b: n;":    {At: 1, Err: api.ErrType},
		"a: t = get;":    {At: 2, Err: api.ErrForm},
		"a: p.get = n;":  {At: 1, Err: api.ErrForm},
		"a: Result = 1;": {At: 1, Err: api.ErrName},
		"a: old t;":      {At: 0, Err: api.ErrForm},
		"a: none;":       {At: 0, Err: api.ErrName},
		"a: s.n = 1;":    {At: 1, Err: api.ErrState},
		"a: q.n = 1;":    {At: 1, Err: api.ErrVoid},
		"a: attached q as v; b: attached q as v;": {At: 2, Err: api.ErrTwice},
		"a: attached q as v; b: v.n = 1;":         {At: 4, Err: api.ErrName},
		"a: attached q as n;":                     {At: 0, Err: api.ErrTwice},
		"a: attached q as get;":                   {At: 0, Err: api.ErrTwice},
	} {
		l := system(t, "class A feature { ANY } n: INTEGER; t: BOOLEAN; p: A; q: detachable A; s: separate A; get: INTEGER do Result := n; end invariant "+text+" end")
		var all []api.Fault
		if want.Err != api.OK {
			want.Class, want.Feature = "A", "invariant"
			all = []api.Fault{want}
		}
		if got := faultsOf(t, l); !alike(got, all) {
			t.Errorf("%s: %v, want %v", text, got, all)
		}
	}
	tag, truth := api.Clause{Tag: "", Expr: api.Expr{Kind: api.ExInt}}, api.Clause{Tag: "a", Expr: api.Expr{Kind: api.ExBool}}
	many := make([]api.Clause, api.MaxParts)
	for i := range many {
		many[i] = truth
	}
	deep := api.Clause{Tag: "a", Expr: api.Expr{Kind: api.ExBin, Name: "=", Kids: []api.Expr{sum(api.MaxNest - 1), sum(1)}}}
	deeper := api.Clause{Tag: "a", Expr: api.Expr{Kind: api.ExBin, Name: "=", Kids: []api.Expr{sum(api.MaxNest), sum(1)}}}
	for i, c := range []struct {
		clauses []api.Clause
		want    []api.Fault
	}{
		{[]api.Clause{truth, tag}, []api.Fault{{Class: "A", Feature: "invariant", At: 1, Err: api.ErrName}}},
		{many, nil},
		{append(many, truth), []api.Fault{{Class: "A", Feature: "invariant", At: -1, Err: api.ErrLimit}}},
		{append(many, tag), []api.Fault{{Class: "A", Feature: "invariant", At: -1, Err: api.ErrLimit}}},
		{[]api.Clause{deep}, nil},
		{[]api.Clause{tag, deeper}, []api.Fault{{Class: "A", Feature: "invariant", At: -1, Err: api.ErrLimit}}},
	} {
		if got := faultsOf(t, []api.Class{{Name: "A", Invariant: c.clauses}}); !alike(got, c.want) {
			t.Errorf("%d: %v, want %v", i, got, c.want)
		}
	}
}

// P6.1: the order of faults.
func TestOrderOfFaults(t *testing.T) {
	const class = `class NAME create none, two, one feature { ANY } b: NAME; c: NONSENSE; one do put x; end two do end three do y; end invariant a: 1; end `
	l := system(t, strings.ReplaceAll(class, "NAME", "Z")+strings.ReplaceAll(class, "NAME", "A"))
	var want []api.Fault
	for _, name := range []string{"Z", "A"} {
		want = append(want,
			api.Fault{Class: name, At: -1, Err: api.ErrName},
			api.Fault{Class: name, Feature: "invariant", At: 0, Err: api.ErrType},
			api.Fault{Class: name, Feature: "c", At: -1, Err: api.ErrNone},
			api.Fault{Class: name, Feature: "one", At: 1, Err: api.ErrName},
			api.Fault{Class: name, Feature: "three", At: 1, Err: api.ErrName},
			api.Fault{Class: name, Feature: "two", Create: true, At: -1, Err: api.ErrVoid},
		)
	}
	if got := faultsOf(t, l); !alike(got, want) {
		t.Error(got)
	}
	checks(t, l, api.ErrName)
	l[0].Create = l[0].Create[1:]
	checks(t, l, api.ErrType)
	l[0].Invariant = nil
	checks(t, l, api.ErrNone)
	l[0].Features[1].Type.Name = "Z"
	checks(t, l, api.ErrName)
	// The creation procedures, in the order of Create, each once.
	l = system(t, "class A create c, a, b feature { ANY } x: A; a do end b do end c do end end")
	l[0].Create = []string{"c", "a", "c", "b"}
	want = []api.Fault{{Class: "A", At: -1, Err: api.ErrTwice}}
	for _, name := range []string{"c", "a", "b"} {
		want = append(want, api.Fault{Class: "A", Feature: name, Create: true, At: -1, Err: api.ErrVoid})
	}
	if got := faultsOf(t, l); !alike(got, want) {
		t.Error(got)
	}
	if got := faultsOf(t, nil); len(got) != 0 {
		t.Error(got)
	}
	checks(t, nil, api.OK)
}
