package mean_test

import (
	"reflect"
	"strings"
	"testing"

	"cosigner/api"
	"cosigner/mean"
	"cosigner/read"
)

// many is as many steps as a run may take.
const many = api.MaxSteps

// box is the class BOX of the chapter's examples.
const box = `
class BOX
create start
feature { ANY }
  count: INTEGER;
  start do end
  add (n: INTEGER) require pos: n > 0; do count := count + n; ensure more: count = old count + n; end
invariant low: count < 10;
end
`

// system returns the classes of a text.
func system(t *testing.T, text string) []api.Class {
	t.Helper()
	l, at, err := read.Parse(text)
	if err != api.OK {
		t.Fatalf("%d at %v: %s", err, at, text)
	}
	return l
}

// mainWith returns the text of the class MAIN, with what stands behind its make, and further features.
func mainWith(make, more string) string {
	return "class MAIN create make feature { ANY } make " + make + " end " + more + " end "
}

// body returns the text of the class MAIN with a body of make, and further features.
func body(stmts, more string) string {
	return mainWith("do "+stmts, more)
}

// exprOf returns the expression of a text.
func exprOf(t *testing.T, text string) api.Expr {
	t.Helper()
	e, _, err := read.ExprOf(text)
	if err != api.OK {
		t.Fatalf("%d: %s", err, text)
	}
	return e
}

// featureOf returns a feature as it stands in a system, so that it can be changed there.
func featureOf(t *testing.T, l []api.Class, class, name string) *api.Feature {
	t.Helper()
	for _, c := range l {
		for i, f := range c.Features {
			if c.Name == class && f.Name == name {
				return &c.Features[i]
			}
		}
	}
	t.Fatalf("%s has no %s", class, name)
	return nil
}

// textOf returns a system as a text, or as what it is if it has none.
func textOf(l []api.Class) any {
	var out []string
	for _, c := range l {
		text, err := read.Print([]api.Class{c})
		if err != api.OK {
			return l
		}
		out = append(out, text)
	}
	return strings.Join(out, "")
}

// comesTo checks the error of a run from make of MAIN, its exception, and what it puts out.
func comesTo(t *testing.T, l []api.Class, err api.Errno, fault int, out ...int) {
	t.Helper()
	m, e := mean.Run(l, "MAIN", "make", many)
	if e != err || m.Fault != fault || !alike(m.Out, out) {
		t.Errorf("error %d, fault %d, out %v; want %d, %d, %v: %v", e, m.Fault, m.Out, err, fault, out, textOf(l))
	}
}

// alike tells whether two values are equal, with lists without elements and none being equal.
func alike[T any](a, b T) bool {
	return alikeValues(reflect.ValueOf(a), reflect.ValueOf(b))
}

func alikeValues(a, b reflect.Value) bool {
	switch a.Kind() {
	case reflect.Slice:
		if a.Len() != b.Len() {
			return false
		}
		for i := range a.Len() {
			if !alikeValues(a.Index(i), b.Index(i)) {
				return false
			}
		}
		return true
	case reflect.Struct:
		for i := range a.NumField() {
			if !alikeValues(a.Field(i), b.Field(i)) {
				return false
			}
		}
		return true
	}
	return a.Equal(b)
}

// copied returns a copy of a value that shares no memory with it.
func copied[T any](x T) T {
	return deepCopy(reflect.ValueOf(x)).Interface().(T)
}

func deepCopy(v reflect.Value) reflect.Value {
	out := reflect.New(v.Type()).Elem()
	switch v.Kind() {
	case reflect.Slice:
		for i := range v.Len() {
			out.Set(reflect.Append(out, deepCopy(v.Index(i))))
		}
	case reflect.Struct:
		for i := range v.NumField() {
			out.Field(i).Set(deepCopy(v.Field(i)))
		}
	default:
		out.Set(v)
	}
	return out
}

// isZero tells whether a value is a zero one; a list without elements is one, and so is what has nothing else.
func isZero(x any) bool {
	v := reflect.ValueOf(x)
	return alikeValues(v, reflect.Zero(v.Type()))
}

// places adds where the elements of all lists within a value lie; none may be there already.
func places(t *testing.T, v reflect.Value, seen map[uintptr]bool) {
	t.Helper()
	switch v.Kind() {
	case reflect.Slice:
		for i := range v.Cap() {
			at := v.Slice(0, v.Cap()).Index(i).Addr().Pointer()
			if seen[at] {
				t.Fatalf("%s: an element lies where another one does", v.Type())
			}
			seen[at] = true
		}
		for i := range v.Len() {
			places(t, v.Index(i), seen)
		}
	case reflect.Struct:
		for i := range v.NumField() {
			places(t, v.Field(i), seen)
		}
	}
}

// apart checks that values share no memory, neither with each other nor within them.
func apart(t *testing.T, values ...any) {
	t.Helper()
	seen := map[uintptr]bool{}
	for _, v := range values {
		places(t, reflect.ValueOf(v), seen)
	}
}

// meant returns what a run without an exception puts out.
func meant(l []api.Class, class, make string) ([]int, api.Errno) {
	m, err := mean.Run(l, class, make, many)
	return m.Out, err
}
