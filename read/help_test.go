package read_test

import (
	"reflect"
	"strings"
	"testing"

	"cosigner/api"
	"cosigner/lex"
	"cosigner/read"
)

// The trees of expressions.
var (
	yes     = api.Expr{Kind: api.ExBool, N: 1}
	no      = api.Expr{Kind: api.ExBool}
	void    = api.Expr{Kind: api.ExVoid}
	current = api.Expr{Kind: api.ExCurrent}
	result  = api.Expr{Kind: api.ExResult}
	a       = call("a")
	b       = call("b")
	c       = call("c")
)

func num(n int) api.Expr {
	return api.Expr{Kind: api.ExInt, N: n}
}

func call(name string, args ...api.Expr) api.Expr {
	return api.Expr{Kind: api.ExCall, Name: name, Kids: args}
}

func dot(target api.Expr, name string, args ...api.Expr) api.Expr {
	return api.Expr{Kind: api.ExCall, Name: name, N: 1, Kids: append([]api.Expr{target}, args...)}
}

func bin(x api.Expr, operator string, y api.Expr) api.Expr {
	return api.Expr{Kind: api.ExBin, Name: operator, Kids: []api.Expr{x, y}}
}

func un(operator string, x api.Expr) api.Expr {
	return api.Expr{Kind: api.ExUn, Name: operator, Kids: []api.Expr{x}}
}

func old(x api.Expr) api.Expr {
	return api.Expr{Kind: api.ExOld, Kids: []api.Expr{x}}
}

func attached(x api.Expr, name string) api.Expr {
	return api.Expr{Kind: api.ExAttached, Name: name, Kids: []api.Expr{x}}
}

// The trees of statements.
func assign(name string, x api.Expr) api.Stmt {
	return api.Stmt{Kind: api.StAssign, Name: name, Exprs: []api.Expr{x}}
}

func do(x api.Expr) api.Stmt {
	return api.Stmt{Kind: api.StCall, Exprs: []api.Expr{x}}
}

func create(name string, x api.Expr) api.Stmt {
	return api.Stmt{Kind: api.StMake, Name: name, Exprs: []api.Expr{x}}
}

func put(x api.Expr) api.Stmt {
	return api.Stmt{Kind: api.StPut, Exprs: []api.Expr{x}}
}

func raise(n int) api.Stmt {
	return api.Stmt{Kind: api.StRaise, N: n}
}

func check(l ...api.Clause) api.Stmt {
	return api.Stmt{Kind: api.StCheck, Tags: l}
}

func clause(tag string, x api.Expr) api.Clause {
	return api.Clause{Tag: tag, Expr: x}
}

var retry = api.Stmt{Kind: api.StRetry}

// The trees of types.
var (
	integer = api.Type{Kind: api.TyInt}
	boolean = api.Type{Kind: api.TyBool}
)

func typed(name string, args ...api.Type) api.Type {
	return api.Type{Kind: api.TyClass, Name: name, Args: args}
}

func formal(name string) api.Type {
	return api.Type{Kind: api.TyFormal, Name: name}
}

func detachable(t api.Type) api.Type {
	t.Void = true
	return t
}

func separate(t api.Type) api.Type {
	t.Sep = true
	return t
}

func attribute(name string, t api.Type) api.Feature {
	return api.Feature{Kind: api.FeAttr, Name: name, Clients: []string{"ANY"}, Type: t}
}

func procedure(name string, body ...api.Stmt) api.Feature {
	return api.Feature{Kind: api.FeRoutine, Name: name, Clients: []string{"ANY"}, Body: body}
}

func classOf(name string, l ...api.Feature) api.Class {
	return api.Class{Name: name, Features: l}
}

// alike reports whether two trees are equal; lists without elements and none are.
func alike(a, b any) bool {
	return reflect.DeepEqual(clone(reflect.ValueOf(a)).Interface(), clone(reflect.ValueOf(b)).Interface())
}

// clone returns a value that can be set, and shares no memory with another one. It has no nil lists.
func clone(v reflect.Value) reflect.Value {
	out := reflect.New(v.Type()).Elem()
	out.Set(v)
	switch v.Kind() {
	case reflect.Struct:
		for i := range v.NumField() {
			out.Field(i).Set(clone(v.Field(i)))
		}
	case reflect.Slice:
		out.Set(reflect.MakeSlice(v.Type(), 0, v.Len()))
		for i := range v.Len() {
			out.Set(reflect.Append(out, clone(v.Index(i))))
		}
	}
	return out
}

// marked returns a text without its mark `^`, and the place of this.
func marked(text string) (string, api.Place) {
	ahead, behind, found := strings.Cut(text, "^")
	if !found {
		panic("no mark in " + text)
	}
	return ahead + behind, api.Place{Line: strings.Count(ahead, "\n") + 1, Column: len(ahead) - strings.LastIndex(ahead, "\n")}
}

// parses fails the test unless a text says classes.
func parses(t *testing.T, text string, want ...api.Class) {
	t.Helper()
	l, at, err := read.Parse(text)
	if at != (api.Place{}) || err != api.OK || !alike(l, want) {
		t.Errorf("%q: %+v %v %d, want %+v", text, l, at, err, want)
	}
}

// rejects fails the test unless a text has an error where its mark is, by Parse and by Slips.
func rejects(t *testing.T, text string, want api.Errno) {
	t.Helper()
	text, place := marked(text)
	l, at, err := read.Parse(text)
	if len(l) > 0 || at != place || err != want {
		t.Errorf("Parse %q: %+v %v %d, want %v %d", text, l, at, err, place, want)
	}
	slips, err := read.Slips(text)
	if err != api.OK || len(slips) == 0 || slips[0] != (api.Slip{At: place, Err: want}) {
		t.Errorf("Slips %q: %v %d, want first %v %d", text, slips, err, place, want)
	}
}

// rejectsExpr fails the test unless a text is no expression for what is marked.
func rejectsExpr(t *testing.T, text string, want api.Errno) {
	t.Helper()
	text, place := marked(text)
	if e, at, err := read.ExprOf(text); !alike(e, api.Expr{}) || at != place || err != want {
		t.Errorf("%q: %+v %v %d, want %v %d", text, e, at, err, place, want)
	}
}

// rejectsStmts fails the test unless a text is no statements for what is marked.
func rejectsStmts(t *testing.T, text string, want api.Errno) {
	t.Helper()
	text, place := marked(text)
	if l, at, err := read.StmtsOf(text); len(l) > 0 || at != place || err != want {
		t.Errorf("%q: %+v %v %d, want %v %d", text, l, at, err, place, want)
	}
}

// rejectsType fails the test unless a text is no type, with the formals G and H, for what is marked.
func rejectsType(t *testing.T, text string, want api.Errno) {
	t.Helper()
	text, place := marked(text)
	if y, at, err := read.TypeOf(text, []string{"G", "H"}); !alike(y, api.Type{}) || at != place || err != want {
		t.Errorf("%q: %+v %v %d, want %v %d", text, y, at, err, place, want)
	}
}

// words returns the texts of the tokens of a text.
func words(t *testing.T, text string) []string {
	t.Helper()
	tokens, at, err := lex.Tokens(text)
	if err != api.OK {
		t.Fatalf("%q: %v %d", text, at, err)
	}
	var out []string
	for _, token := range tokens {
		out = append(out, token.Text)
	}
	return out
}

// deepExpr is a text of an expression that is n deep.
func deepExpr(n int) string {
	return strings.Repeat("- ", n-1) + "x"
}

// deepType is a text of a type that is n deep.
func deepType(n int) string {
	return strings.Repeat("LIST [ ", n-1) + "INTEGER" + strings.Repeat(" ]", n-1)
}

// deepStmt is a text of a statement, with its semicolon, that is n deep, n from 2 on.
func deepStmt(n int) string {
	return strings.Repeat("if x then ", n-2) + "put x ;" + strings.Repeat(" end ;", n-2)
}
