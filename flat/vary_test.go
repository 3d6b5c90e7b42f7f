package flat_test

import (
	"iter"
	"reflect"

	"cosigner/api"
)

// variants yields flat forms each of which differs at one place: a number, a text or a truth is another one, or a list has an element more, or less, or two others exchanged.
func variants(f []api.Flat) iter.Seq[[]api.Flat] {
	return func(yield func([]api.Flat) bool) {
		for n := 0; ; n++ {
			changed := copied(f)
			left := n
			if !vary(reflect.ValueOf(&changed).Elem(), &left) {
				return
			}
			if !yield(changed) {
				return
			}
		}
	}
}

// vary makes the change with a number, which it counts down, and tells whether there is one.
func vary(v reflect.Value, left *int) bool {
	mine := func() bool {
		*left--
		return *left == -1
	}
	switch v.Kind() {
	case reflect.Int:
		if mine() {
			v.SetInt(v.Int() + 1)
			return true
		}
	case reflect.String:
		if mine() {
			v.SetString(v.String() + "x")
			return true
		}
	case reflect.Bool:
		if mine() {
			v.SetBool(!v.Bool())
			return true
		}
	case reflect.Struct:
		for i := range v.NumField() {
			if vary(v.Field(i), left) {
				return true
			}
		}
	case reflect.Slice:
		if mine() {
			v.Set(reflect.Append(v, reflect.New(v.Type().Elem()).Elem()))
			return true
		}
		if v.Len() > 0 && mine() {
			v.Set(v.Slice(1, v.Len()))
			return true
		}
		if v.Len() > 1 && mine() {
			first := deepCopy(v.Index(0))
			v.Index(0).Set(v.Index(v.Len() - 1))
			v.Index(v.Len() - 1).Set(first)
			return true
		}
		for i := range v.Len() {
			if vary(v.Index(i), left) {
				return true
			}
		}
	}
	return false
}

// filledLists returns a copy in which no list is nil.
func filledLists[T any](x T) T {
	out := copied(x)
	fillLists(reflect.ValueOf(&out).Elem())
	return out
}

func fillLists(v reflect.Value) {
	switch v.Kind() {
	case reflect.Slice:
		if v.IsNil() {
			v.Set(reflect.MakeSlice(v.Type(), 0, 0))
		}
		for i := range v.Len() {
			fillLists(v.Index(i))
		}
	case reflect.Struct:
		for i := range v.NumField() {
			fillLists(v.Field(i))
		}
	}
}
