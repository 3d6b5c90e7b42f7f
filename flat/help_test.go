package flat_test

import (
	"fmt"
	"reflect"
	"slices"
	"strings"
	"testing"

	"cosigner/api"
	"cosigner/flat"
	"cosigner/read"
)

// example is the system of the chapter's examples.
const example = `
class P feature { ANY } a do end n : INTEGER ; end
class A inherit P ; end
class B inherit P rename a as b redefine b ; feature { ANY } b do end end
class C inherit A ; B ; end`

// chosen is the same system, in which C selects b.
const chosen = `
class P feature { ANY } a do end n : INTEGER ; end
class A inherit P ; end
class B inherit P rename a as b redefine b ; feature { ANY } b do end end
class C inherit A ; B select b ; end`

// system returns the classes of a text, which may have tabs.
func system(t *testing.T, text string) []api.Class {
	t.Helper()
	l, at, err := read.Parse(strings.ReplaceAll(text, "\t", " "))
	if err != api.OK {
		t.Fatalf("%d at %v of %s", err, at, text)
	}
	return l
}

// conflict returns a conflict about one name or two, and with at most two origins, each as a parent, a point and a name.
func conflict(kind int, class, about, origins string) api.Conflict {
	c := api.Conflict{Kind: kind, Class: class}
	for i, name := range names(about) {
		*[]*string{&c.Name, &c.Other}[i] = name
	}
	for i, o := range names(origins) {
		*[]*api.Origin{&c.A, &c.B}[i] = origin(o)
	}
	return c
}

func origin(text string) api.Origin {
	parent, name, _ := strings.Cut(text, ".")
	return api.Origin{Parent: parent, Name: name}
}

func seed(text string) api.Seed {
	class, name, _ := strings.Cut(text, ".")
	return api.Seed{Class: class, Name: name}
}

func names(text string) []string {
	return strings.Fields(text)
}

func namesOf(l []api.Class) []string {
	var out []string
	for _, c := range l {
		out = append(out, c.Name)
	}
	return out
}

// clashes checks which conflict a system has first, and that it is accepted.
func clashes(t *testing.T, text string, want api.Conflict) {
	t.Helper()
	l := system(t, text)
	if c, is, err := flat.Clash(l); c != want || !is || err != api.OK {
		t.Errorf("%s: %v %t %d, want %v", text, c, is, err, want)
	}
	if err := flat.CheckClash(l, want); err != api.OK {
		t.Errorf("%s: %v: %d", text, want, err)
	}
}

// agrees checks that a system has no conflict.
func agrees(t *testing.T, text string) {
	t.Helper()
	if c, is, err := flat.Clash(system(t, text)); c != (api.Conflict{}) || is || err != api.OK {
		t.Errorf("%s: %v %t %d", text, c, is, err)
	}
}

// flatOf returns the flat form of a class, which must have one.
func flatOf(t *testing.T, l []api.Class, class string) api.Flat {
	t.Helper()
	f, err := flat.FlatOf(l, class)
	if err != api.OK {
		t.Fatalf("%s: %d", class, err)
	}
	return f
}

// has checks the members of a class of a text, each as a line.
func has(t *testing.T, text, class string, lines ...string) {
	t.Helper()
	var got []string
	for _, m := range flatOf(t, system(t, text), class).Members {
		got = append(got, line(m))
	}
	if !slices.Equal(got, lines) {
		t.Errorf("%s of %s:\n%s\nwant\n%s", class, text, strings.Join(got, "\n"), strings.Join(lines, "\n"))
	}
}

// line returns a member as a line: its name, its arguments and its type, its kind, its seeds, where its body is, its clients (if these are not just ANY) and its groups.
func line(m api.Member) string {
	var out strings.Builder
	out.WriteString(m.Name)
	if len(m.Args) > 0 {
		var args []string
		for _, v := range m.Args {
			args = append(args, v.Name+": "+typeText(v.Type))
		}
		out.WriteString(" (" + strings.Join(args, "; ") + ")")
	}
	if m.Type.Kind != api.TyNone {
		out.WriteString(": " + typeText(m.Type))
	}
	out.WriteString(" " + [...]string{"no kind", "attribute", "routine", "deferred"}[m.Kind])
	for i, s := range m.Seeds {
		out.WriteString([...]string{" ", "+"}[min(i, 1)] + s.Class + "." + s.Name)
	}
	out.WriteString(" at " + m.Impl.Class + "." + m.Impl.Name)
	if !slices.Equal(m.Clients, []string{"ANY"}) {
		out.WriteString(" for " + strings.Join(m.Clients, " "))
	}
	out.WriteString(" pre" + groupText(m.Pre))
	if len(m.Post) > 0 {
		out.WriteString(" post" + groupText(m.Post))
	}
	return out.String()
}

func groupText(l []api.Group) string {
	out := ""
	for _, g := range l {
		out += " " + g.Class
		for _, c := range g.Clauses {
			out += "{" + c.Tag + ": " + exprText(c.Expr) + "}"
		}
	}
	return out
}

func exprText(e api.Expr) string {
	text, err := read.ExprText(e)
	if err != api.OK {
		return fmt.Sprint(e)
	}
	return text
}

// typeText returns a type, whatever it is, as a text; formals have a mark.
func typeText(t api.Type) string {
	out := ""
	if t.Void {
		out += "detachable "
	}
	if t.Sep {
		out += "separate "
	}
	switch t.Kind {
	case api.TyNone:
		out += "NOTHING"
	case api.TyInt:
		out += "INTEGER"
	case api.TyBool:
		out += "BOOLEAN"
	case api.TyFormal:
		out += "'"
	}
	out += t.Name
	if len(t.Args) > 0 {
		var args []string
		for _, arg := range t.Args {
			args = append(args, typeText(arg))
		}
		out += "[" + strings.Join(args, ", ") + "]"
	}
	return out
}

// alike tells whether two values are equal, with lists without elements and none being equal.
func alike[T any](a, b T) bool {
	return alikeValues(reflect.ValueOf(a), reflect.ValueOf(b))
}

func alikeValues(a, b reflect.Value) bool {
	switch a.Kind() {
	case reflect.Slice:
		if a.Len() != b.Len() {
			return false
		}
		for i := range a.Len() {
			if !alikeValues(a.Index(i), b.Index(i)) {
				return false
			}
		}
		return true
	case reflect.Struct:
		for i := range a.NumField() {
			if !alikeValues(a.Field(i), b.Field(i)) {
				return false
			}
		}
		return true
	}
	return a.Equal(b)
}

// copied returns a copy of a value that shares no memory with it.
func copied[T any](x T) T {
	return deepCopy(reflect.ValueOf(x)).Interface().(T)
}

func deepCopy(v reflect.Value) reflect.Value {
	out := reflect.New(v.Type()).Elem()
	switch v.Kind() {
	case reflect.Slice:
		for i := range v.Len() {
			out.Set(reflect.Append(out, deepCopy(v.Index(i))))
		}
	case reflect.Struct:
		for i := range v.NumField() {
			out.Field(i).Set(deepCopy(v.Field(i)))
		}
	default:
		out.Set(v)
	}
	return out
}

// isZero tells whether a value is a zero one; a list without elements is one.
func isZero(x any) bool {
	v := reflect.ValueOf(x)
	return v.Kind() == reflect.Slice && v.Len() == 0 || v.IsZero()
}

// places adds where the elements of all lists within a value lie; none may be there already.
func places(t *testing.T, v reflect.Value, seen map[uintptr]bool) {
	t.Helper()
	switch v.Kind() {
	case reflect.Slice:
		for i := range v.Cap() {
			at := v.Slice(0, v.Cap()).Index(i).Addr().Pointer()
			if seen[at] {
				t.Fatalf("%s: an element lies where another one does", v.Type())
			}
			seen[at] = true
		}
		for i := range v.Len() {
			places(t, v.Index(i), seen)
		}
	case reflect.Struct:
		for i := range v.NumField() {
			places(t, v.Field(i), seen)
		}
	}
}

// apart checks that values share no memory, neither with each other nor within them.
func apart(t *testing.T, values ...any) {
	t.Helper()
	seen := map[uintptr]bool{}
	for _, v := range values {
		places(t, reflect.ValueOf(v), seen)
	}
}

// call is a function with a system: what it returned, its error last.
type call struct {
	name    string
	results []any
}

// err returns the error of a call.
func (c call) err() api.Errno {
	return c.results[len(c.results)-1].(api.Errno)
}

// calls calls all functions with a system, with a class, a feature of it and a seed where they need one.
func calls(l []api.Class, class, name string, s api.Seed, client string) []call {
	list := func(name string, results ...any) call { return call{name, results} }
	f1, e1 := flat.FlatOf(l, class)
	f2, e2 := flat.Flats(l)
	f3, e3 := flat.MemberOf(l, class, name)
	f4, e4 := flat.Origins(l, class, name)
	f5, e5 := flat.Names(l, class, s)
	f6, e6 := flat.Selected(l, class, s)
	f7, e7 := flat.Version(l, class, class, name)
	f8, c8, e8 := flat.Declared(l, class, name)
	f9, e9 := flat.Open(l, class, name, client)
	f10, e10 := flat.Deferred(l, class)
	f11, is11, e11 := flat.Clash(l)
	return []call{
		list("FlatOf", f1, e1), list("Flats", f2, e2), list("MemberOf", f3, e3), list("Origins", f4, e4), list("Names", f5, e5),
		list("Selected", f6, e6), list("Version", f7, e7), list("Declared", f8, c8, e8), list("Open", f9, e9), list("Deferred", f10, e10),
		list("Clash", f11, is11, e11), list("CheckClash", flat.CheckClash(l, api.Conflict{})), list("CheckFlats", flat.CheckFlats(l, f2)),
	}
}

// fail checks that some of the calls (all, if none are named) have an error, and with it nothing else.
func fail(t *testing.T, calls []call, want api.Errno, functions ...string) {
	t.Helper()
	for _, c := range calls {
		if len(functions) > 0 && !slices.Contains(functions, c.name) {
			continue
		}
		if c.err() != want {
			t.Errorf("%s: %d, want %d", c.name, c.err(), want)
		}
		for _, r := range c.results[:len(c.results)-1] {
			if want != api.OK && !isZero(r) {
				t.Errorf("%s: %v together with an error", c.name, r)
			}
		}
	}
}
