package read_test

import (
	"reflect"
	"strings"
	"testing"

	"cosigner/api"
	"cosigner/read"
)

// full is a class with something in each list that a class can have.
const full = `deferred class A [ G : ANY , H : B ]
inherit B [ G , detachable LIST [ INTEGER ] ] rename a as b , c as d undefine e , f redefine g select h ; C ;
create make , start
feature { ANY , B } x : detachable separate LIST [ G ] ;
  f ( a : INTEGER ; b : BOOLEAN ) : LIST [ H ] require t : a > 0 ; u : b ; local x : INTEGER ; y : detachable G do
    Result := a + 1 ; a . b ( c , 2 ) ; create x . make ( True ) ;
    if attached a as z then f ; else retry ; end ;
    from i := 0 ; invariant t : i >= 0 ; until not b variant 10 - i loop put i ; end ;
    check t : Void = Current ; end ; separate old a as q when b do raise 7 ; end ;
  ensure v : Result implies a ; rescue retry ; end
feature { NONE } g : INTEGER deferred require t : a ; ensure u : b ; end
invariant i : a ; j : b ;
end`

// withNils returns a value whose lists without elements are nil.
func withNils(v reflect.Value) reflect.Value {
	out := clone(v)
	var visit func(v reflect.Value)
	visit = func(v reflect.Value) {
		switch v.Kind() {
		case reflect.Struct:
			for i := range v.NumField() {
				visit(v.Field(i))
			}
		case reflect.Slice:
			for i := range v.Len() {
				visit(v.Index(i))
			}
			if v.Len() == 0 {
				v.Set(reflect.Zero(v.Type()))
			}
		}
	}
	visit(out)
	return out
}

// P2.7: Same, field by field; lists without elements and none are equal.
func TestSame(t *testing.T) {
	c := tree(full)
	if !read.Same(c, tree(full)) || !read.Same(api.Class{}, api.Class{}) || !read.Same(classOf("A"), classOf("A")) {
		t.Error("a class is not the same")
	}
	empty, none := clone(reflect.ValueOf(c)).Interface().(api.Class), withNils(reflect.ValueOf(c)).Interface().(api.Class)
	if !read.Same(empty, none) || !read.Same(none, empty) || !read.Same(c, empty) || !read.Same(none, c) {
		t.Error("lists without elements and none are not equal")
	}
	for _, x := range changes(c) {
		if read.Same(c, x) || read.Same(x, c) || !read.Same(x, x) {
			t.Errorf("Same of %+v and %+v", c, x)
		}
	}
	// Neither class needs to have a text.
	odd := api.Class{Name: "?", Features: []api.Feature{{Kind: 99, Rescue: []api.Stmt{{Kind: -5, Exprs: []api.Expr{{Kind: 77, Kids: []api.Expr{{}}}}}}}}}
	other := clone(reflect.ValueOf(odd)).Interface().(api.Class)
	if !read.Same(odd, other) {
		t.Error(odd)
	}
	other.Features[0].Rescue[0].Exprs[0].Kids[0].N = 1
	if read.Same(odd, other) || read.Same(other, odd) {
		t.Error(odd)
	}
}

// P2.7
func TestDepth(t *testing.T) {
	wide := call("f", a, un("-", un("-", a)), b)
	for _, w := range []struct {
		e    api.Expr
		want int
	}{
		{a, 1}, {num(-1), 1}, {api.Expr{}, 1}, {yes, 1}, {call("f", a), 2}, {dot(a, "b"), 2}, {bin(a, "+", b), 2}, {bin(a, "+", bin(b, "*", c)), 3}, {bin(bin(a, "+", b), "*", c), 3}, {un("-", a), 2}, {old(a), 2}, {attached(a, "b"), 2},
		{wide, 4}, {dot(wide, "f", a), 5}, {dot(a, "f", b, wide), 5}, {bin(wide, "and", wide), 5}, {attached(dot(wide, "a"), "x"), 6},
		{api.Expr{Kind: -7, Name: "?", N: 9, Kids: []api.Expr{{}, {Kids: []api.Expr{{}}}}}, 3}, {api.Expr{Kind: api.ExInt, Kids: []api.Expr{un("+", api.Expr{Kind: 50})}}, 3}, {api.Expr{Kids: []api.Expr{}}, 1},
	} {
		if n := read.Depth(w.e); n != w.want {
			t.Errorf("%+v: %d, want %d", w.e, n, w.want)
		}
	}
	deep := a
	for range 10000 {
		deep = un("-", deep)
	}
	if n := read.Depth(deep); n != 10001 {
		t.Error(n)
	}
	if s, err := read.ExprText(deep); s != "" || err != api.ErrLimit {
		t.Error(len(s), err)
	}
	e, _, _ := read.ExprOf(strings.Repeat("(", 50) + "a + b" + strings.Repeat(")", 50))
	if n := read.Depth(e); n != 2 {
		t.Error(n)
	}
}
