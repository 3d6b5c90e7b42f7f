package read_test

import (
	"reflect"
	"strings"
	"testing"

	"cosigner/api"
	"cosigner/read"
)

// whole fails the test unless Whole says what it should of classes; Print has the same error.
func whole(t *testing.T, l []api.Class, err api.Errno, at int) {
	t.Helper()
	if e, i := read.Whole(l); e != err || i != at {
		t.Errorf("Whole %+v: %d %d, want %d %d", l, e, i, err, at)
	}
	if s, e := read.Print(l); e != err || (s == "") != (err != api.OK || len(l) == 0) {
		t.Errorf("Print %+v: %q %d, want %d", l, s, e, err)
	}
}

// tree returns the class of a text that has one.
func tree(text string) api.Class {
	l, _, err := read.Parse(text)
	if len(l) != 1 || err != api.OK {
		panic(text)
	}
	return l[0]
}

// P2.4
func TestWhole(t *testing.T) {
	whole(t, nil, api.OK, 0)
	whole(t, []api.Class{}, api.OK, 0)
	right, wrong, deep := classOf("A"), classOf("a"), classOf("A", attribute("x", integer))
	for range api.MaxNest {
		deep.Features[0].Type = typed("A", deep.Features[0].Type)
	}
	both := deep
	both.Name = "a"
	whole(t, []api.Class{right}, api.OK, 0)
	whole(t, []api.Class{right, right, right}, api.OK, 0)
	whole(t, []api.Class{wrong}, api.ErrForm, 0)
	whole(t, []api.Class{right, right, wrong, wrong}, api.ErrForm, 2)
	whole(t, []api.Class{right, deep, wrong}, api.ErrLimit, 1)
	whole(t, []api.Class{right, wrong, deep}, api.ErrForm, 1)
	whole(t, []api.Class{both, wrong}, api.ErrLimit, 0)
	many := make([]api.Class, api.MaxClasses)
	for i := range many {
		many[i] = right
	}
	whole(t, many, api.OK, 0)
	whole(t, append(many[:api.MaxClasses-1:api.MaxClasses-1], wrong), api.ErrForm, api.MaxClasses-1)
	whole(t, append(many, right), api.ErrLimit, api.MaxClasses)
	whole(t, append([]api.Class{wrong, deep}, many...), api.ErrLimit, api.MaxClasses)
}

// P2.4: how deep parts are nested, in each place where parts stand.
func TestNestOfTrees(t *testing.T) {
	for i, text := range deepClasses(api.MaxNest) {
		c := tree(text)
		whole(t, []api.Class{c}, api.OK, 0)
		if deeper := deepen(&c); !deeper {
			t.Error(i)
		}
		whole(t, []api.Class{classOf("A"), c}, api.ErrLimit, 1)
		c.Name = "a"
		whole(t, []api.Class{c}, api.ErrLimit, 0)
	}
}

// deepen makes the deepest parts of a class, which are MaxNest deep, one deeper.
func deepen(c *api.Class) bool {
	found := false
	var visit func(v reflect.Value, depth int)
	visit = func(v reflect.Value, depth int) {
		switch v.Kind() {
		case reflect.Slice:
			for i := range v.Len() {
				visit(v.Index(i), depth)
			}
		case reflect.Struct:
			switch x := v.Addr().Interface().(type) {
			case *api.Expr:
				if depth++; depth == api.MaxNest {
					*x = un("-", *x)
					found = true
					return
				}
			case *api.Type:
				if depth++; depth == api.MaxNest {
					*x = typed("B", integer)
					found = true
					return
				}
			case *api.Stmt:
				depth++
			}
			for i := range v.NumField() {
				visit(v.Field(i), depth)
			}
		}
	}
	visit(reflect.ValueOf(c).Elem(), 0)
	return found
}

// wrongTrees are trees of expressions that no text says.
var wrongTrees = []api.Expr{
	{}, {Kind: -1}, {Kind: 11}, {Kind: 100}, num(-1), num(1<<40 + 1), num(-1 << 63), {Kind: api.ExInt, Name: "a"}, {Kind: api.ExInt, N: 1, Kids: []api.Expr{a}},
	{Kind: api.ExBool, N: 2}, {Kind: api.ExBool, N: -1}, {Kind: api.ExBool, Name: "True"}, {Kind: api.ExBool, Kids: []api.Expr{a}},
	{Kind: api.ExVoid, N: 1}, {Kind: api.ExVoid, Name: "Void"}, {Kind: api.ExVoid, Kids: []api.Expr{a}}, {Kind: api.ExCurrent, N: 1}, {Kind: api.ExCurrent, Name: "a"}, {Kind: api.ExResult, N: 1},
	{Kind: api.ExResult, Name: "Result"}, {Kind: api.ExResult, Kids: []api.Expr{a}}, call(""), call("A"), call("Result"), call("Current"), call("Void"), call("True"), call("1"), call("end"), call("result"), call("a b"), call("a.b"), call(" a"), call("a "), call("a--"),
	call("(a)"), call("a;"), call("abcdefghijklmnopqrstu"), call("-"), call("a\n"), call("_"), {Kind: api.ExCall, Name: "a", N: 1}, {Kind: api.ExCall, Name: "a", N: 2}, {Kind: api.ExCall, Name: "a", N: -1, Kids: []api.Expr{b}}, {Kind: api.ExCall, Name: "a", N: 2, Kids: []api.Expr{b}},
	call("a", api.Expr{}), dot(a, "A"), dot(a, "Result"), dot(api.Expr{}, "a"), dot(a, "b", num(-1)),
	bin(a, "", b), bin(a, "and then", b), bin(a, "==", b), bin(a, "not", b), bin(a, "old", b), bin(a, ".", b), bin(a, ":=", b), bin(a, ";", b), bin(a, ",", b), bin(a, ")", b), bin(a, "(", b), bin(a, "as", b), bin(a, "plus", b), bin(a, " +", b), bin(a, "+ -", b),
	{Kind: api.ExBin, Name: "+"}, {Kind: api.ExBin, Name: "+", Kids: []api.Expr{a}}, {Kind: api.ExBin, Name: "-", Kids: []api.Expr{a}}, {Kind: api.ExBin, Name: "+", Kids: []api.Expr{a, b, c}}, {Kind: api.ExBin, Name: "+", N: 1, Kids: []api.Expr{a, b}}, bin(a, "+", api.Expr{}), bin(api.Expr{}, "-", a),
	un("", a), un("+", a), un("old", a), un("- -", a), un("not not", a), un("a", b), un("(", a), un("attached", a), {Kind: api.ExUn, Name: "-"}, {Kind: api.ExUn, Name: "-", Kids: []api.Expr{a, b}}, {Kind: api.ExUn, Name: "not", N: 1, Kids: []api.Expr{a}}, un("-", api.Expr{}),
	{Kind: api.ExOld}, {Kind: api.ExOld, Name: "old", Kids: []api.Expr{a}}, {Kind: api.ExOld, N: 1, Kids: []api.Expr{a}}, {Kind: api.ExOld, Kids: []api.Expr{a, b}}, old(api.Expr{}),
	attached(a, ""), attached(a, "B"), attached(a, "Result"), attached(a, "end"), attached(api.Expr{}, "a"), {Kind: api.ExAttached, Name: "a"}, {Kind: api.ExAttached, Name: "a", N: 1, Kids: []api.Expr{a}}, {Kind: api.ExAttached, Name: "a", Kids: []api.Expr{a, b}}, attached(a, "b . c"),
}

// P2.4, P2.6: expressions that no text says, by themselves and as parts of all others.
func TestWrongTrees(t *testing.T) {
	for _, x := range wrongTrees {
		for _, e := range []api.Expr{x, un("-", x), old(x), attached(x, "a"), bin(x, "=", a), bin(a, "implies", x), call("f", a, x), dot(x, "f"), dot(a, "f", x)} {
			if s, err := read.ExprText(e); s != "" || err != api.ErrForm {
				t.Errorf("%+v: %q %d", e, s, err)
			}
		}
		tag := clause("t", x)
		for _, s := range []api.Stmt{
			assign("x", x), do(dot(x, "f")), do(x), create("x", call("f", x)), create("x", x), put(x), check(clause("u", yes), tag), {Kind: api.StIf, Exprs: []api.Expr{x}},
			{Kind: api.StLoop, Exprs: []api.Expr{x}}, {Kind: api.StLoop, Exprs: []api.Expr{a, x}}, {Kind: api.StLoop, Exprs: []api.Expr{a}, Tags: []api.Clause{tag}},
			{Kind: api.StSep, Name: "a", Exprs: []api.Expr{x}}, {Kind: api.StSep, Name: "a", Exprs: []api.Expr{a, x}},
		} {
			wrongStmt(t, s)
		}
		f, g := procedure("f"), procedure("g")
		f.Require, g.Ensure = []api.Clause{tag}, []api.Clause{tag}
		c := classOf("A")
		c.Invariant = []api.Clause{tag}
		whole(t, []api.Class{c}, api.ErrForm, 0)
		whole(t, []api.Class{classOf("A", f)}, api.ErrForm, 0)
		whole(t, []api.Class{classOf("A", g)}, api.ErrForm, 0)
	}
}

// wrongStmt fails the test unless no text says a statement, wherever it stands.
func wrongStmt(t *testing.T, s api.Stmt) {
	t.Helper()
	f, l := procedure("f"), []api.Stmt{retry, s}
	f.Rescue, f.Rescues = l, true
	for _, l := range [][]api.Stmt{{s}, l, {{Kind: api.StIf, Exprs: []api.Expr{a}, Body: l}}, {{Kind: api.StIf, Exprs: []api.Expr{a}, Else: l}}, {{Kind: api.StLoop, Exprs: []api.Expr{a}, Init: l}},
		{{Kind: api.StLoop, Exprs: []api.Expr{a}, Body: l}}, {{Kind: api.StSep, Name: "a", Exprs: []api.Expr{a}, Body: l}}} {
		if text, err := read.StmtsText(l); text != "" || err != api.ErrForm {
			t.Errorf("%+v: %q %d", l, text, err)
		}
		whole(t, []api.Class{classOf("A", procedure("f", l...))}, api.ErrForm, 0)
	}
	whole(t, []api.Class{classOf("A", f)}, api.ErrForm, 0)
}

// P2.4, P2.6: statements that no text says.
func TestWrongStatements(t *testing.T) {
	one, two, three := []api.Expr{a}, []api.Expr{a, b}, []api.Expr{a, b, c}
	for _, s := range []api.Stmt{
		{}, {Kind: -1}, {Kind: 11}, {Kind: 11, Exprs: one}, assign("", a), assign("A", a), assign("result", a), assign("Current", a), assign("end", a), assign("a . b", a), assign("a :=", a), {Kind: api.StAssign, Name: "a"}, {Kind: api.StAssign, Name: "a", Exprs: two},
		{Kind: api.StAssign, Name: "a", Exprs: one, N: 1}, do(num(1)), do(bin(a, "+", b)), do(yes), do(result), do(current), do(attached(a, "b")), do(un("-", a)), do(old(a)), {Kind: api.StCall}, {Kind: api.StCall, Exprs: two}, {Kind: api.StCall, Exprs: one, Name: "a"}, {Kind: api.StCall, Exprs: one, N: 1},
		create("", a), create("A", a), create("Current", a), create("a", dot(a, "b")), create("a", num(1)), create("a", result), create("a", bin(a, "+", b)), create("a", un("-", a)), {Kind: api.StMake, Name: "a"}, {Kind: api.StMake, Name: "a", Exprs: two}, {Kind: api.StMake, Name: "a", Exprs: one, N: 1},
		{Kind: api.StIf}, {Kind: api.StIf, Exprs: two}, {Kind: api.StIf, Exprs: one, Name: "a"}, {Kind: api.StIf, Exprs: one, N: 1}, {Kind: api.StIf, Exprs: one, Init: []api.Stmt{retry}}, {Kind: api.StIf, Exprs: one, Tags: []api.Clause{clause("t", a)}},
		{Kind: api.StLoop}, {Kind: api.StLoop, Exprs: three}, {Kind: api.StLoop, Exprs: one, Name: "a"}, {Kind: api.StLoop, Exprs: one, N: 1}, {Kind: api.StLoop, Exprs: one, Else: []api.Stmt{retry}},
		{Kind: api.StLoop, Exprs: one, Tags: []api.Clause{clause("", a)}}, {Kind: api.StLoop, Exprs: one, Tags: []api.Clause{clause("T", a)}}, check(clause("", a)), check(clause("T", a)), check(clause("Result", a)), check(clause("t", a), clause("end", a)),
		{Kind: api.StCheck, Name: "a"}, {Kind: api.StCheck, N: 1}, {Kind: api.StCheck, Exprs: one}, {Kind: api.StCheck, Body: []api.Stmt{retry}},
		{Kind: api.StSep}, {Kind: api.StSep, Name: "a"}, {Kind: api.StSep, Exprs: one}, {Kind: api.StSep, Name: "Result", Exprs: one}, {Kind: api.StSep, Name: "A", Exprs: one}, {Kind: api.StSep, Name: "a", Exprs: three}, {Kind: api.StSep, Name: "a", Exprs: one, N: 1}, {Kind: api.StSep, Name: "a", Exprs: one, Else: []api.Stmt{retry}},
		{Kind: api.StSep, Name: "a", Exprs: one, Init: []api.Stmt{retry}}, {Kind: api.StSep, Name: "a", Exprs: one, Tags: []api.Clause{clause("t", a)}},
		{Kind: api.StRetry, Name: "retry"}, {Kind: api.StRetry, N: 1}, {Kind: api.StRetry, Exprs: one}, {Kind: api.StRetry, Body: []api.Stmt{retry}}, raise(-1), raise(100), raise(1 << 41), {Kind: api.StRaise, Name: "a"}, {Kind: api.StRaise, Exprs: one}, {Kind: api.StRaise, Else: []api.Stmt{retry}},
		{Kind: api.StPut}, {Kind: api.StPut, Exprs: two}, {Kind: api.StPut, Exprs: one, Name: "a"}, {Kind: api.StPut, Exprs: one, N: 1}, {Kind: api.StPut, Exprs: one, Tags: []api.Clause{clause("t", a)}},
	} {
		wrongStmt(t, s)
	}
}

// wrongTypeTrees are types that no text says, in a class with the formal G.
var wrongTypeTrees = []api.Type{
	{}, {Kind: -1}, {Kind: 5}, {Kind: 5, Name: "A"}, {Void: true}, {Sep: true}, {Name: "A"}, {Args: []api.Type{integer}}, detachable(integer), separate(integer), detachable(boolean), separate(boolean), {Kind: api.TyInt, Name: "INTEGER"}, {Kind: api.TyBool, Name: "BOOLEAN"}, {Kind: api.TyInt, Name: "A"},
	{Kind: api.TyInt, Args: []api.Type{integer}}, {Kind: api.TyBool, Args: []api.Type{typed("A")}}, typed(""), typed("a"), typed("INTEGER"), typed("BOOLEAN"), typed("NONE"), typed("Result"), typed("class"), typed("A B"), typed("A [ B ]"), typed("1"), typed("ABCDEFGHIJKLMNOPQRSTU"), typed("detachable A"),
	separate(formal("G")), detachable(separate(formal("G"))), {Kind: api.TyFormal, Name: "G", Args: []api.Type{integer}}, formal(""), formal("g"), formal("INTEGER"), formal("NONE"),
}

// P2.4, P2.6: types that no text says, by themselves and as parts.
func TestWrongTypeTrees(t *testing.T) {
	inClass := append([]api.Type{formal("H"), typed("G"), separate(typed("G")), typed("A", typed("G")), formal("A")}, wrongTypeTrees...)
	for _, y := range inClass {
		for _, x := range []api.Type{y, typed("B", y), typed("B", integer, y), separate(typed("B", typed("C", y)))} {
			c := api.Class{Name: "A", Formals: []api.Formal{{Name: "G", Bound: "ANY"}}}
			f, g := procedure("f"), procedure("g")
			f.Args, g.Locals = []api.Var{{Name: "v", Type: x}}, []api.Var{{Name: "w", Type: integer}, {Name: "v", Type: x}}
			features := []api.Feature{attribute("x", x), f, g}
			if !alike(x, api.Type{}) {
				h := procedure("h")
				h.Type = x
				features = append(features, h)
			}
			for _, f := range features {
				c.Features = []api.Feature{f}
				whole(t, []api.Class{c}, api.ErrForm, 0)
			}
			c.Features, c.Parents = nil, []api.Parent{{Name: "B"}, {Name: "B", Args: []api.Type{integer, x}}}
			whole(t, []api.Class{c}, api.ErrForm, 0)
		}
	}
	mixed := typed("A", formal("G"), typed("G"))
	for _, y := range append(wrongTypeTrees, mixed, typed("A", typed("H"), detachable(formal("H")))) {
		for _, x := range []api.Type{y, typed("B", y), typed("B", formal("G"), y), separate(typed("B", typed("C", y)))} {
			if s, err := read.TypeText(x); s != "" || err != api.ErrForm {
				t.Errorf("%+v: %q %d", x, s, err)
			}
		}
	}
}

// P2.4: classes, each with one field changed in many ways, are right exactly if their parts are.
func TestWholeByFields(t *testing.T) {
	r := newChance(24)
	right, count := 0, 0
	for range 10 {
		c := r.class()
		for _, changed := range changes(c) {
			count++
			want := api.ErrForm
			if validClass(changed) {
				want = api.OK
				right++
			}
			if err, at := read.Whole([]api.Class{changed}); err != want || at != 0 {
				t.Fatalf("%+v: %d %d, want %d", changed, err, at, want)
			}
			if read.Same(c, changed) || read.Same(changed, c) || !read.Same(changed, changed) {
				t.Fatalf("Same of %+v and %+v", c, changed)
			}
			if want == api.OK {
				returns(t, []api.Class{changed})
			}
		}
	}
	if right < count/10 || right > count*9/10 {
		t.Error(right, count)
	}
}

// changes returns all that a class becomes by a change of one field of one of its parts.
func changes(c api.Class) []api.Class {
	var out []api.Class
	words := []string{"", "a", "A", "G", "Result", "end", "-", "and", "INTEGER", "ANY", "NONE", "a b"}
	copied, first := clone(reflect.ValueOf(c)), clone(reflect.ValueOf(c)).Interface()
	take := func() {
		if now := clone(copied).Interface(); !reflect.DeepEqual(now, first) {
			out = append(out, now.(api.Class))
		}
	}
	var visit func(v reflect.Value)
	visit = func(v reflect.Value) {
		before := clone(v)
		set := func(x any) {
			v.Set(reflect.ValueOf(x).Convert(v.Type()))
			take()
			v.Set(before)
		}
		switch v.Kind() {
		case reflect.String:
			for _, s := range words {
				set(s)
			}
		case reflect.Int:
			for n := -1; n < 12; n++ {
				set(n)
			}
		case reflect.Bool:
			set(!v.Bool())
		case reflect.Struct:
			for i := range v.NumField() {
				visit(v.Field(i))
			}
		case reflect.Slice:
			for i := range v.Len() {
				visit(v.Index(i))
			}
			longer := reflect.Append(clone(v), reflect.Zero(v.Type().Elem()))
			set(longer.Interface())
			if v.Len() > 0 {
				set(reflect.AppendSlice(clone(v), v.Slice(0, 1)).Interface())
				set(clone(v).Slice(1, v.Len()).Interface())
				set(clone(v).Slice(0, v.Len()-1).Interface())
			}
			if v.Len() > 1 && !alike(v.Index(0).Interface(), v.Index(1).Interface()) {
				other := clone(v)
				other.Index(0).Set(v.Index(1))
				other.Index(1).Set(v.Index(0))
				set(other.Interface())
			}
		}
	}
	visit(copied)
	return out
}

// returns fails the test unless Parse of Print are the classes.
func returns(t *testing.T, l []api.Class) {
	t.Helper()
	text, err := read.Print(l)
	if err != api.OK {
		t.Fatalf("%+v: %d", l, err)
	}
	again, at, err := read.Parse(text)
	if at != (api.Place{}) || err != api.OK || !alike(again, l) {
		t.Fatalf("%q: %+v %v %d, want %+v", text, again, at, err, l)
	}
}

// P2.4: a text that is too long does not matter to Whole.
func TestWholeOfLongTexts(t *testing.T) {
	c := classOf("A")
	for range api.MaxTokens {
		c.Create = append(c.Create, strings.Repeat("a", api.MaxName))
	}
	if err, at := read.Whole([]api.Class{c, c}); err != api.OK || at != 0 {
		t.Error(err, at)
	}
	if err, at := read.Whole([]api.Class{c, c, classOf("")}); err != api.ErrForm || at != 2 {
		t.Error(err, at)
	}
}
