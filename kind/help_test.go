package kind_test

import (
	"fmt"
	"reflect"
	"slices"
	"strings"
	"testing"

	"cosigner/api"
	"cosigner/kind"
)

// example is the system of the chapter's examples.
const example = "COMPARABLE; TEXT (COMPARABLE); LIST [G: ANY]; SORTED [H: COMPARABLE] (LIST [H]); WORDS (SORTED [TEXT]); BAG [G: ANY] (LIST [G])"

// system returns the classes of a text, which is written as the chapter's examples are: names, formals with their bounds in square brackets, parents in round ones.
func system(text string) []api.Class {
	var l []api.Class
	for part := range strings.SplitSeq(text, ";") {
		head, parents, _ := strings.Cut(part, "(")
		name, formals, _ := strings.Cut(head, "[")
		c := api.Class{Name: strings.TrimSpace(name), Formals: formalsOf(strings.TrimSuffix(strings.TrimSpace(formals), "]"))}
		for _, p := range parted(strings.TrimSuffix(strings.TrimSpace(parents), ")")) {
			t := typed(p, formalNames(c)...)
			c.Parents = append(c.Parents, api.Parent{Name: t.Name, Args: t.Args})
		}
		l = append(l, c)
	}
	return l
}

// formalsOf returns the formals of a text, each with its bound behind a colon.
func formalsOf(text string) []api.Formal {
	var out []api.Formal
	for _, part := range parted(text) {
		name, bound, _ := strings.Cut(part, ":")
		out = append(out, api.Formal{Name: strings.TrimSpace(name), Bound: strings.TrimSpace(bound)})
	}
	return out
}

func formalNames(c api.Class) []string {
	var out []string
	for _, f := range c.Formals {
		out = append(out, f.Name)
	}
	return out
}

// typed returns the type of a text, in which some names are formals, and so are those behind a mark.
func typed(text string, formals ...string) api.Type {
	text = strings.TrimSpace(text)
	t := api.Type{Kind: api.TyClass}
	if rest, is := strings.CutPrefix(text, "detachable "); is {
		t.Void, text = true, rest
	}
	if rest, is := strings.CutPrefix(text, "separate "); is {
		t.Sep, text = true, rest
	}
	if head, rest, is := strings.Cut(text, "["); is {
		text = strings.TrimSpace(head)
		for _, part := range parted(strings.TrimSuffix(rest, "]")) {
			t.Args = append(t.Args, typed(part, formals...))
		}
	}
	switch {
	case text == "INTEGER":
		t.Kind, text = api.TyInt, ""
	case text == "BOOLEAN":
		t.Kind, text = api.TyBool, ""
	case text == "Void":
		t.Kind, text = api.TyNone, ""
	case strings.HasPrefix(text, "'"):
		t.Kind, text = api.TyFormal, text[1:]
	case slices.Contains(formals, text):
		t.Kind = api.TyFormal
	}
	t.Name = text
	return t
}

// in returns the type of a text that stands in a class.
func in(l []api.Class, class, text string) api.Type {
	return typed(text, formalNames(classOf(l, class))...)
}

// typesIn returns the types of a text that stand in a class.
func typesIn(l []api.Class, class, text string) []api.Type {
	var out []api.Type
	for _, part := range parted(text) {
		out = append(out, in(l, class, part))
	}
	return out
}

// parted returns the parts of a text between the commas that stand in no brackets.
func parted(text string) []string {
	var out []string
	if strings.TrimSpace(text) == "" {
		return nil
	}
	depth, from := 0, 0
	for i, b := range []byte(text + ",") {
		switch b {
		case '[':
			depth++
		case ']':
			depth--
		case ',':
			if depth == 0 {
				out, from = append(out, (text + ",")[from:i]), i+1
			}
		}
	}
	return out
}

// typeText returns a type, whatever it is, as a text; formals have a mark.
func typeText(t api.Type) string {
	out := [...]string{"", "detachable "}[number(t.Void)] + [...]string{"", "separate "}[number(t.Sep)]
	switch t.Kind {
	case api.TyNone:
		out += "Void"
	case api.TyInt:
		out += "INTEGER"
	case api.TyBool:
		out += "BOOLEAN"
	case api.TyFormal:
		out += "'"
	case api.TyClass:
	default:
		out += fmt.Sprint("kind ", t.Kind)
	}
	out += t.Name
	if len(t.Args) > 0 {
		out += " [" + typesText(t.Args) + "]"
	}
	return out
}

func typesText(l []api.Type) string {
	var out []string
	for _, t := range l {
		out = append(out, typeText(t))
	}
	return strings.Join(out, ", ")
}

// systemText returns a system, whatever it is, as a text.
func systemText(l []api.Class) string {
	var out []string
	for _, c := range l {
		text := c.Name
		for i, f := range c.Formals {
			text += [...]string{" [", ", "}[min(i, 1)] + f.Name + ": " + f.Bound
		}
		text += [...]string{"", "]"}[min(len(c.Formals), 1)]
		for i, p := range c.Parents {
			text += [...]string{" (", ", "}[min(i, 1)] + typeText(api.Type{Kind: api.TyClass, Name: p.Name, Args: p.Args})
		}
		out = append(out, text+[...]string{"", ")"}[min(len(c.Parents), 1)])
	}
	return strings.Join(out, "; ")
}

func number(is bool) int {
	if is {
		return 1
	}
	return 0
}

// classOf returns a class of a system, or an empty one.
func classOf(l []api.Class, name string) api.Class {
	for _, c := range l {
		if c.Name == name {
			return c
		}
	}
	return api.Class{}
}

// nested returns a text of a type that is nested so deep, with a class that has one formal, around a type that is 1 deep.
func nested(class string, deep int, inner string) string {
	return strings.Repeat(class+" [", deep-1) + inner + strings.Repeat("]", deep-1)
}

// alike tells whether two values are equal, with lists without elements and none being equal.
func alike[T any](a, b T) bool {
	return alikeValues(reflect.ValueOf(a), reflect.ValueOf(b))
}

func alikeValues(a, b reflect.Value) bool {
	switch a.Kind() {
	case reflect.Slice:
		if a.Len() != b.Len() {
			return false
		}
		for i := range a.Len() {
			if !alikeValues(a.Index(i), b.Index(i)) {
				return false
			}
		}
		return true
	case reflect.Struct:
		for i := range a.NumField() {
			if !alikeValues(a.Field(i), b.Field(i)) {
				return false
			}
		}
		return true
	}
	return a.Equal(b)
}

// copied returns a copy of a value that shares no memory with it.
func copied[T any](x T) T {
	return deepCopy(reflect.ValueOf(x)).Interface().(T)
}

func deepCopy(v reflect.Value) reflect.Value {
	out := reflect.New(v.Type()).Elem()
	switch v.Kind() {
	case reflect.Slice:
		for i := range v.Len() {
			out.Set(reflect.Append(out, deepCopy(v.Index(i))))
		}
	case reflect.Struct:
		for i := range v.NumField() {
			out.Field(i).Set(deepCopy(v.Field(i)))
		}
	default:
		out.Set(v)
	}
	return out
}

// isZero tells whether a value is a zero one; a list without elements is one.
func isZero(x any) bool {
	v := reflect.ValueOf(x)
	return v.Kind() == reflect.Slice && v.Len() == 0 || v.IsZero()
}

// places adds where the elements of all lists within a value lie; none may be there already.
func places(t *testing.T, v reflect.Value, seen map[uintptr]bool) {
	t.Helper()
	switch v.Kind() {
	case reflect.Slice:
		for i := range v.Cap() {
			at := v.Slice(0, v.Cap()).Index(i).Addr().Pointer()
			if seen[at] {
				t.Fatalf("%s: an element lies where another one does", v.Type())
			}
			seen[at] = true
		}
		for i := range v.Len() {
			places(t, v.Index(i), seen)
		}
	case reflect.Struct:
		for i := range v.NumField() {
			places(t, v.Field(i), seen)
		}
	}
}

// apart checks that values share no memory, neither with each other nor within them.
func apart(t *testing.T, values ...any) {
	t.Helper()
	seen := map[uintptr]bool{}
	for _, v := range values {
		places(t, reflect.ValueOf(v), seen)
	}
}

// call is a function with a system: what it returned, its error last.
type call struct {
	name    string
	results []any
}

// calls calls all functions with a system but Check, with a class and two types in it, and an ancestor.
func calls(l []api.Class, class string, s, t api.Type, ancestor, formal string) []call {
	list := func(name string, results ...any) call { return call{name, results} }
	b, e1 := kind.Bound(l, class, formal)
	i, e2 := kind.Instance(l, s, ancestor)
	seen, e3 := kind.Seen(l, s, ancestor, t)
	supers, e4 := kind.Supers(l, class, s)
	is, e5 := kind.Conforms(l, class, s, t)
	why, e6 := kind.Why(l, class, s, t)
	joins, e7 := kind.Joins(l, class, s, t)
	return []call{
		list("Right", kind.Right(l, class, s)), list("Bound", b, e1), list("Instance", i, e2), list("Seen", seen, e3), list("Supers", supers, e4),
		list("Conforms", is, e5), list("Why", why, e6), list("CheckWhy", kind.CheckWhy(l, class, s, t, why)), list("Joins", joins, e7),
	}
}

// err returns the error of a call.
func (c call) err() api.Errno {
	return c.results[len(c.results)-1].(api.Errno)
}

// fail checks that some of the calls (all, if none are named) have an error, and with it nothing else.
func fail(t *testing.T, calls []call, want api.Errno, functions ...string) {
	t.Helper()
	for _, c := range calls {
		if len(functions) > 0 && !slices.Contains(functions, c.name) {
			continue
		}
		if c.err() != want {
			t.Errorf("%s: %d, want %d", c.name, c.err(), want)
		}
		for _, r := range c.results[:len(c.results)-1] {
			if want != api.OK && !isZero(r) {
				t.Errorf("%s: %v together with an error", c.name, r)
			}
		}
	}
}
