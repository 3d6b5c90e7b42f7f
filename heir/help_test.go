package heir_test

import (
	"fmt"
	"math/rand"
	"reflect"
	"slices"
	"strings"
	"testing"

	"cosigner/api"
	"cosigner/heir"
)

// example is the system of the chapter's examples.
const example = "A, B A, C A, D B C, E D A"

// system returns the classes of a text that has, for each one, its name and those of its parents.
func system(text string) []api.Class {
	var l []api.Class
	for part := range strings.SplitSeq(text, ",") {
		if words := strings.Fields(part); len(words) > 0 {
			l = append(l, class(words[0], words[1:]...))
		}
	}
	return l
}

func class(name string, parents ...string) api.Class {
	c := api.Class{Name: name}
	for _, p := range parents {
		c.Parents = append(c.Parents, api.Parent{Name: p})
	}
	return c
}

// chain returns a system of n classes, each (but for the first one) with the one before it as its parent.
func chain(n int) []api.Class {
	var l []api.Class
	for i := range n {
		if i == 0 {
			l = append(l, class(number(i)))
		} else {
			l = append(l, class(number(i), number(i-1)))
		}
	}
	return l
}

// number returns the name of the i-th class; the names have the order of the numbers.
func number(i int) string {
	return fmt.Sprintf("C%02d", i)
}

func names(text string) []string {
	return strings.Fields(text)
}

func namesOf(l []api.Class) []string {
	var out []string
	for _, c := range l {
		out = append(out, c.Name)
	}
	return out
}

func parentsOf(l []api.Class, name string) []string {
	var out []string
	for _, c := range l {
		if c.Name == name {
			for _, p := range c.Parents {
				out = append(out, p.Name)
			}
			return out
		}
	}
	return nil
}

func same(t *testing.T, what any, got, want []string) {
	t.Helper()
	if !slices.Equal(got, want) {
		t.Errorf("%v: %v, want %v", what, got, want)
	}
}

// calls calls each function that checks its system first, with a class's name where it needs one; the error and the other results of each come back by its name.
func calls(l []api.Class, c string) map[string][]any {
	list := func(r any, e api.Errno) []any { return []any{e, r} }
	above, e1 := heir.Above(l, c)
	below, e2 := heir.Below(l, c)
	is, e3 := heir.Is(l, c, c)
	way, e4 := heir.Way(l, c, c)
	ways, e5 := heir.Ways(l, c, c)
	order, e6 := heir.Order(l)
	levels, e7 := heir.Levels(l)
	least, e8 := heir.Least(l, c, c)
	needless, e9 := heir.Needless(l)
	touched, e10 := heir.Touched(l, []string{c})
	more, e11 := heir.Add(l, class("ZZ"))
	less, e12 := heir.Without(l, c)
	return map[string][]any{
		"Above": list(above, e1), "Below": list(below, e2), "Is": list(is, e3), "Way": list(way, e4),
		"CheckWay": {heir.CheckWay(l, c, c, []string{c})}, "Ways": list(ways, e5), "Order": list(order, e6),
		"Levels": list(levels, e7), "Least": list(least, e8), "Needless": list(needless, e9),
		"Touched": list(touched, e10), "Add": list(more, e11), "Without": list(less, e12),
	}
}

// fail checks that each of these functions returns an error, and with it nothing else.
func fail(t *testing.T, results map[string][]any, want api.Errno, functions ...string) {
	t.Helper()
	for _, f := range functions {
		r := results[f]
		if r[0] != want {
			t.Errorf("%s: %v, want %d", f, r, want)
		}
		if v := reflect.ValueOf(r[len(r)-1]); len(r) > 1 && !v.IsZero() && (v.Kind() != reflect.Slice || v.Len() > 0) {
			t.Errorf("%s: %v together with an error", f, r)
		}
	}
}

// withNames are the functions whose parameters are names of classes; the others are those without.
func withNames() []string {
	return names("Above Below Is Way CheckWay Ways Least Without")
}

func others() []string {
	return names("Order Levels Needless Touched Add")
}

// byChance returns a valid system of at most n classes, in any order.
func byChance(r *rand.Rand, n int) []api.Class {
	var l []api.Class
	known := r.Perm(n)[:r.Intn(n+1)]
	for i, at := range known {
		c := class(number(at))
		for _, p := range r.Perm(i)[:r.Intn(min(i, api.MaxParents)+1)] {
			c.Parents = append(c.Parents, api.Parent{Name: number(known[p])})
		}
		l = append(l, c)
	}
	r.Shuffle(len(l), func(i, j int) { l[i], l[j] = l[j], l[i] })
	return l
}

// tangle returns a list of at most n classes, whatever their parents are.
func tangle(r *rand.Rand, n int) []api.Class {
	var l []api.Class
	for range r.Intn(n + 1) {
		c := class(number(r.Intn(n)))
		for range r.Intn(3) {
			c.Parents = append(c.Parents, api.Parent{Name: number(r.Intn(n + 1))})
		}
		l = append(l, c)
	}
	return l
}

// allWays returns all ways from c to a, by their definition.
func allWays(l []api.Class, c, a string) [][]string {
	if c == a {
		return [][]string{{c}}
	}
	var out [][]string
	for _, p := range parentsOf(l, c) {
		for _, w := range allWays(l, p, a) {
			out = append(out, append([]string{c}, w...))
		}
	}
	return out
}

func isAbove(l []api.Class, c, a string) bool {
	return len(allWays(l, c, a)) > 0
}

// firstOf returns the first one of the shortest lists.
func firstOf(l [][]string) []string {
	return slices.MinFunc(l, func(a, b []string) int {
		if len(a) != len(b) {
			return len(a) - len(b)
		}
		return slices.Compare(a, b)
	})
}

// filled returns a value of a type in which nothing is empty, and no two numbers or strings are equal; trees are so deep.
func filled(t reflect.Type, deep int, count *int) reflect.Value {
	v := reflect.New(t).Elem()
	*count++
	switch t.Kind() {
	case reflect.Int:
		v.SetInt(int64(*count))
	case reflect.String:
		v.SetString(fmt.Sprint("s", *count))
	case reflect.Bool:
		v.SetBool(true)
	case reflect.Slice:
		if deep == 0 {
			return v
		}
		for range 2 {
			v.Set(reflect.Append(v, filled(t.Elem(), deep-1, count)))
		}
	case reflect.Struct:
		for i := range t.NumField() {
			v.Field(i).Set(filled(t.Field(i).Type, deep, count))
		}
	}
	return v
}

// fullClass returns a class of which every list has elements.
func fullClass(name string, parents ...string) api.Class {
	count := 0
	c := filled(reflect.TypeFor[api.Class](), 5, &count).Interface().(api.Class)
	c.Name = name
	c.Parents = c.Parents[:0]
	for _, p := range parents {
		parent := filled(reflect.TypeFor[api.Parent](), 3, &count).Interface().(api.Parent)
		parent.Name = p
		c.Parents = append(c.Parents, parent)
	}
	return c
}

// places adds where the elements of all lists within a value lie; none may be there already.
func places(t *testing.T, v reflect.Value, seen map[uintptr]bool) {
	t.Helper()
	switch v.Kind() {
	case reflect.Slice:
		for i := range v.Cap() {
			at := v.Slice(0, v.Cap()).Index(i).Addr().Pointer()
			if seen[at] {
				t.Fatalf("%s: an element lies where another one does", v.Type())
			}
			seen[at] = true
		}
		for i := range v.Len() {
			places(t, v.Index(i), seen)
		}
	case reflect.Struct:
		for i := range v.NumField() {
			places(t, v.Field(i), seen)
		}
	}
}

// apart checks that values share no memory, neither with each other nor within them.
func apart(t *testing.T, values ...any) {
	t.Helper()
	seen := map[uintptr]bool{}
	for _, v := range values {
		places(t, reflect.ValueOf(v), seen)
	}
}
