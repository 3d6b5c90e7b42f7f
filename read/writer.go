package read

import (
	"slices"
	"strconv"

	"cosigner/api"
)

// writer puts down the texts of tokens. Of what no text says it may put down anything, or nothing: tokensOf finds that out.
type writer struct {
	texts  []string
	levels map[string]int
}

func (w *writer) put(texts ...string) {
	w.texts = append(w.texts, texts...)
}

// putList puts down parts with a separator between two of them.
func putList[T any](w *writer, separator string, l []T, part func(T)) {
	for i, x := range l {
		if i > 0 {
			w.put(separator)
		}
		part(x)
	}
}

// putOption puts down parts behind a word, if there are any.
func putOption[T any](w *writer, word string, l []T, parts func([]T)) {
	if len(l) > 0 {
		w.put(word)
		parts(l)
	}
}

func (w *writer) names(l []string) {
	putList(w, ",", l, func(s string) { w.put(s) })
}

func (w *writer) class(c api.Class) {
	if c.Deferred {
		w.put("deferred")
	}
	w.put("class", c.Name)
	putOption(w, "[", c.Formals, func(l []api.Formal) {
		putList(w, ",", l, func(f api.Formal) { w.put(f.Name, ":", f.Bound) })
		w.put("]")
	})
	putOption(w, "inherit", c.Parents, w.parents)
	putOption(w, "create", c.Create, w.names)
	for i, f := range c.Features {
		if i == 0 || !slices.Equal(f.Clients, c.Features[i-1].Clients) {
			w.put("feature", "{")
			w.names(f.Clients)
			w.put("}")
		}
		w.feature(f)
	}
	putOption(w, "invariant", c.Invariant, w.asserts)
	w.put("end")
}

func (w *writer) parents(l []api.Parent) {
	for _, a := range l {
		w.put(a.Name)
		w.actuals(a.Args)
		putOption(w, "rename", a.Rename, func(l []api.Pair) {
			putList(w, ",", l, func(r api.Pair) { w.put(r.From, "as", r.To) })
		})
		putOption(w, "undefine", a.Undefine, w.names)
		putOption(w, "redefine", a.Redefine, w.names)
		putOption(w, "select", a.Select, w.names)
		w.put(";")
	}
}

func (w *writer) feature(f api.Feature) {
	w.put(f.Name)
	putOption(w, "(", f.Args, func(l []api.Var) {
		w.vars(l)
		w.put(")")
	})
	if f.Type.Kind != api.TyNone {
		w.put(":")
		w.typed(f.Type)
	}
	switch f.Kind {
	case api.FeAttr:
		w.put(";")
	case api.FeRoutine:
		w.routine(f)
	case api.FeDeferred:
		w.put("deferred")
		putOption(w, "require", f.Require, w.asserts)
		putOption(w, "ensure", f.Ensure, w.asserts)
		w.put("end")
	}
}

// routine puts down what belongs to a feature with a body.
func (w *writer) routine(f api.Feature) {
	putOption(w, "require", f.Require, w.asserts)
	putOption(w, "local", f.Locals, w.vars)
	w.put("do")
	w.stmts(f.Body)
	putOption(w, "ensure", f.Ensure, w.asserts)
	if f.Rescues {
		w.put("rescue")
		w.stmts(f.Rescue)
	}
	w.put("end")
}

func (w *writer) vars(l []api.Var) {
	putList(w, ";", l, func(v api.Var) {
		w.put(v.Name, ":")
		w.typed(v.Type)
	})
}

func (w *writer) typed(t api.Type) {
	if t.Void {
		w.put("detachable")
	}
	if t.Sep {
		w.put("separate")
	}
	switch t.Kind {
	case api.TyInt:
		w.put("INTEGER")
	case api.TyBool:
		w.put("BOOLEAN")
	case api.TyClass, api.TyFormal:
		w.put(t.Name)
	}
	w.actuals(t.Args)
}

func (w *writer) actuals(l []api.Type) {
	putOption(w, "[", l, func(l []api.Type) {
		putList(w, ",", l, w.typed)
		w.put("]")
	})
}

func (w *writer) asserts(l []api.Clause) {
	for _, c := range l {
		w.put(c.Tag, ":")
		w.expr(c.Expr)
		w.put(";")
	}
}

func (w *writer) number(n int) {
	w.put(strconv.Itoa(n))
}
