package sure_test

import (
	"reflect"
	"strings"
	"testing"

	"cosigner/api"
	"cosigner/read"
	"cosigner/sure"
)

// example is the system of the chapter's examples.
const example = `
class BOX
feature { ANY }
  count: INTEGER;
  next: detachable BOX;
  put_in (n: INTEGER) do count := count + n; end
end
class PAIR
create make
feature { ANY }
  first: BOX;
  make (b: BOX) do first := b; first.put_in (1); end
  both: INTEGER do Result := first.count; end
end`

// system returns the classes of a text.
func system(t *testing.T, text string) []api.Class {
	t.Helper()
	l, at, err := read.Parse(text)
	if err != api.OK {
		t.Fatalf("%d at %v: %s", err, at, text)
	}
	return l
}

// typed returns the type of a text, in which some names are formals.
func typed(t *testing.T, text string, formals ...string) api.Type {
	t.Helper()
	if text == "Void" {
		return api.Type{}
	}
	out, _, err := read.TypeOf(text, formals)
	if err != api.OK {
		t.Fatalf("%d: %s", err, text)
	}
	return out
}

// textOf returns a system as a text, or as what it is if it has none.
func textOf(l []api.Class) any {
	var out []string
	for _, c := range l {
		text, err := read.Print([]api.Class{c})
		if err != api.OK {
			return l
		}
		out = append(out, text)
	}
	return strings.Join(out, "")
}

// classOf returns a class of a system, or an empty one.
func classOf(l []api.Class, name string) api.Class {
	for _, c := range l {
		if c.Name == name {
			return c
		}
	}
	return api.Class{}
}

// featureOf returns a feature as it stands in a system, so that it can be changed there.
func featureOf(t *testing.T, l []api.Class, class, name string) *api.Feature {
	t.Helper()
	for _, c := range l {
		for i, f := range c.Features {
			if c.Name == class && f.Name == name {
				return &c.Features[i]
			}
		}
	}
	t.Fatalf("%s has no %s", class, name)
	return nil
}

// faultsOf returns the faults of a system that is well-founded.
func faultsOf(t *testing.T, l []api.Class) []api.Fault {
	t.Helper()
	faults, err := sure.Faults(l)
	if err != api.OK {
		t.Fatalf("%d: %v", err, textOf(l))
	}
	return faults
}

// alike tells whether two values are equal, with lists without elements and none being equal.
func alike[T any](a, b T) bool {
	return alikeValues(reflect.ValueOf(a), reflect.ValueOf(b))
}

func alikeValues(a, b reflect.Value) bool {
	switch a.Kind() {
	case reflect.Slice:
		if a.Len() != b.Len() {
			return false
		}
		for i := range a.Len() {
			if !alikeValues(a.Index(i), b.Index(i)) {
				return false
			}
		}
		return true
	case reflect.Struct:
		for i := range a.NumField() {
			if !alikeValues(a.Field(i), b.Field(i)) {
				return false
			}
		}
		return true
	}
	return a.Equal(b)
}

// copied returns a copy of a value that shares no memory with it.
func copied[T any](x T) T {
	return deepCopy(reflect.ValueOf(x)).Interface().(T)
}

func deepCopy(v reflect.Value) reflect.Value {
	out := reflect.New(v.Type()).Elem()
	switch v.Kind() {
	case reflect.Slice:
		for i := range v.Len() {
			out.Set(reflect.Append(out, deepCopy(v.Index(i))))
		}
	case reflect.Struct:
		for i := range v.NumField() {
			out.Field(i).Set(deepCopy(v.Field(i)))
		}
	default:
		out.Set(v)
	}
	return out
}

// isZero tells whether a value is a zero one; a list without elements is one.
func isZero(x any) bool {
	v := reflect.ValueOf(x)
	return v.Kind() == reflect.Slice && v.Len() == 0 || v.IsZero()
}

// places adds where the elements of all lists within a value lie; none may be there already.
func places(t *testing.T, v reflect.Value, seen map[uintptr]bool) {
	t.Helper()
	switch v.Kind() {
	case reflect.Slice:
		for i := range v.Cap() {
			at := v.Slice(0, v.Cap()).Index(i).Addr().Pointer()
			if seen[at] {
				t.Fatalf("%s: an element lies where another one does", v.Type())
			}
			seen[at] = true
		}
		for i := range v.Len() {
			places(t, v.Index(i), seen)
		}
	case reflect.Struct:
		for i := range v.NumField() {
			places(t, v.Field(i), seen)
		}
	}
}

// apart checks that values share no memory, neither with each other nor within them.
func apart(t *testing.T, values ...any) {
	t.Helper()
	seen := map[uintptr]bool{}
	for _, v := range values {
		places(t, reflect.ValueOf(v), seen)
	}
}

// checks checks the error of a system.
func checks(t *testing.T, l []api.Class, want api.Errno) {
	t.Helper()
	if err := sure.Check(l); err != want {
		t.Errorf("Check is %d, want %d: %v", err, want, textOf(l))
	}
}
