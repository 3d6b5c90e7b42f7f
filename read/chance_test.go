package read_test

import (
	"math/rand"
	"strconv"
	"strings"

	"cosigner/api"
)

// chance makes trees; the chance is the test's own, and the same each time.
type chance struct {
	*rand.Rand
	formals []string
}

func newChance(seed int64) *chance {
	return &chance{Rand: rand.New(rand.NewSource(seed))}
}

// someOf returns at most n parts, at least from.
func someOf[T any](r *chance, from, n int, part func() T) []T {
	var l []T
	for range from + r.Intn(n-from+1) {
		l = append(l, part())
	}
	return l
}

func pick[T any](r *chance, l ...T) T {
	return l[r.Intn(len(l))]
}

func (r *chance) name() string {
	return pick(r, "a", "b", "c", "x_1", "count", "integer", "abcdefghijklmnopqrst")
}

func (r *chance) names() []string {
	return someOf(r, 0, 3, r.name)
}

func (r *chance) capital() string {
	return pick(r, "A", "B", "LIST", "C_1", "G2", "ABCDEFGHIJKLMNOPQRST")
}

// expr returns an expression that is at most n deep.
func (r *chance) expr(n int) api.Expr {
	if n <= 1 {
		return pick(r, num(0), num(7), num(1<<40), yes, no, void, current, result, call(r.name()), call(r.name()))
	}
	kid := func() api.Expr { return r.expr(n - 1 - r.Intn(2)) }
	switch r.Intn(8) {
	case 0:
		return r.expr(1)
	case 1:
		return un(pick(r, "-", "not"), kid())
	case 2:
		return old(kid())
	case 3:
		return attached(kid(), r.name())
	case 4:
		return call(r.name(), someOf(r, 0, 2, kid)...)
	case 5:
		return dot(kid(), r.name(), someOf(r, 0, 2, kid)...)
	}
	return bin(kid(), pick(r, "implies", "or", "and", "=", "/=", "<", "<=", ">", ">=", "+", "-", "*", "//", "%"), kid())
}

// calling returns a call that is at most n deep.
func (r *chance) calling(n int) api.Expr {
	for {
		if e := r.expr(n); e.Kind == api.ExCall {
			return e
		}
	}
}

func (r *chance) clauses(n int) []api.Clause {
	return someOf(r, 0, 2, func() api.Clause { return clause(r.name(), r.expr(n)) })
}

func (r *chance) stmts(n int) []api.Stmt {
	if n <= 1 {
		return nil
	}
	return someOf(r, 0, 2, func() api.Stmt { return r.stmt(n) })
}

func (r *chance) variable() string {
	return pick(r, "Result", r.name())
}

// stmt returns a statement that is at most n deep, n from 2 on.
func (r *chance) stmt(n int) api.Stmt {
	n--
	switch r.Intn(10) {
	case 0:
		return assign(r.variable(), r.expr(n))
	case 1:
		return do(r.calling(n))
	case 2:
		e := r.calling(n)
		for e.N == 1 {
			e = r.calling(n)
		}
		return create(r.variable(), e)
	case 3:
		return api.Stmt{Kind: api.StIf, Exprs: []api.Expr{r.expr(n)}, Body: r.stmts(n), Else: r.stmts(n)}
	case 4:
		return api.Stmt{Kind: api.StLoop, Exprs: someOf(r, 1, 2, func() api.Expr { return r.expr(n) }), Tags: r.clauses(n), Init: r.stmts(n), Body: r.stmts(n)}
	case 5:
		return check(r.clauses(n)...)
	case 6:
		return api.Stmt{Kind: api.StSep, Name: r.name(), Exprs: someOf(r, 1, 2, func() api.Expr { return r.expr(n) }), Body: r.stmts(n)}
	case 7:
		return retry
	case 8:
		return raise(pick(r, 0, 1, 99))
	}
	return put(r.expr(n))
}

// typed returns a type that is at most n deep.
func (r *chance) typed(n int) api.Type {
	switch k := r.Intn(6); {
	case k == 0:
		return integer
	case k == 1:
		return boolean
	case k == 2 && len(r.formals) > 0:
		return api.Type{Kind: api.TyFormal, Name: pick(r, r.formals...), Void: r.Intn(3) == 0}
	}
	t := api.Type{Kind: api.TyClass, Name: "ANY", Void: r.Intn(3) == 0, Sep: r.Intn(3) == 0}
	for t.Name == "ANY" || r.isFormal(t.Name) {
		t.Name = r.capital()
	}
	if n > 1 {
		t.Args = someOf(r, 0, 2, func() api.Type { return r.typed(n - 1) })
	}
	return t
}

func (r *chance) isFormal(name string) bool {
	for _, s := range r.formals {
		if s == name {
			return true
		}
	}
	return false
}

func (r *chance) vars() []api.Var {
	return someOf(r, 0, 2, func() api.Var { return api.Var{Name: r.name(), Type: r.typed(2)} })
}

func (r *chance) feature() api.Feature {
	f := api.Feature{Kind: pick(r, api.FeAttr, api.FeRoutine, api.FeDeferred), Name: r.name()}
	f.Clients = pick(r, []string{"ANY"}, []string{"A", "NONE"}, []string{"INTEGER"})
	if f.Kind == api.FeAttr {
		f.Type = r.typed(3)
		return f
	}
	f.Args = r.vars()
	if r.Intn(2) == 0 {
		f.Type = r.typed(3)
	}
	f.Require, f.Ensure = r.clauses(3), r.clauses(3)
	if f.Kind == api.FeRoutine {
		f.Locals = r.vars()
		f.Body = r.stmts(4)
		if r.Intn(2) == 0 {
			f.Rescues = true
			f.Rescue = r.stmts(3)
		}
	}
	return f
}

func (r *chance) parent() api.Parent {
	p := api.Parent{Name: pick(r, "ANY", r.capital()), Args: someOf(r, 0, 2, func() api.Type { return r.typed(3) })}
	p.Rename = someOf(r, 0, 2, func() api.Pair { return api.Pair{From: r.name(), To: r.name()} })
	p.Undefine, p.Redefine, p.Select = r.names(), r.names(), r.names()
	return p
}

func (r *chance) class() api.Class {
	c := api.Class{Name: r.capital(), Deferred: r.Intn(3) == 0}
	c.Formals = someOf(r, 0, 2, func() api.Formal {
		return api.Formal{Name: pick(r, "G", "H", "LIST"), Bound: pick(r, "ANY", r.capital())}
	})
	r.formals = nil
	for _, f := range c.Formals {
		r.formals = append(r.formals, f.Name)
	}
	c.Parents = someOf(r, 0, 2, r.parent)
	c.Create = r.names()
	c.Features = someOf(r, 0, 4, r.feature)
	c.Invariant = r.clauses(4)
	return c
}

func (r *chance) system() []api.Class {
	return someOf(r, 0, 3, r.class)
}

// loose writes trees in one of the ways in which they can be written: with more brackets than they need, with empty parts, and with clauses for each feature, if it is told so. It is no printer of the chapter's: it knows nothing of levels.
type loose struct {
	*chance
	more bool
	out  []string
}

func (w *loose) put(l ...string) {
	w.out = append(w.out, l...)
}

// some tells whether something that may stand there does.
func (w *loose) some() bool {
	return w.more && w.Intn(3) == 0
}

func each[T any](w *loose, l []T, separator string, part func(T)) {
	for i, x := range l {
		if i > 0 {
			w.put(separator)
		}
		part(x)
	}
}

func (w *loose) list(word string, l []string) {
	if len(l) > 0 {
		w.put(word)
		each(w, l, ",", func(s string) { w.put(s) })
	}
}

func (w *loose) clauses(word string, l []api.Clause) {
	if len(l) == 0 && !w.some() {
		return
	}
	w.put(word)
	w.asserts(l)
}

func (w *loose) asserts(l []api.Clause) {
	for _, c := range l {
		w.put(c.Tag, ":")
		w.expr(c.Expr)
		w.put(";")
	}
}

// expr writes an expression where any may stand.
func (w *loose) expr(e api.Expr) {
	if w.some() {
		w.put("(")
		w.expr(e)
		w.put(")")
		return
	}
	w.bare(e)
}

// side writes an expression beside an operator, or ahead of a dot: within brackets, but for words, and calls of names.
func (w *loose) side(e api.Expr) {
	plain := len(e.Kids) == 0 || e.Kind == api.ExCall && e.N == 0
	if plain && !w.some() {
		w.bare(e)
		return
	}
	w.put("(")
	w.expr(e)
	w.put(")")
}

func (w *loose) bare(e api.Expr) {
	switch e.Kind {
	case api.ExInt:
		w.put(strconv.Itoa(e.N))
	case api.ExBool:
		w.put([]string{"False", "True"}[e.N])
	case api.ExVoid:
		w.put("Void")
	case api.ExCurrent:
		w.put("Current")
	case api.ExResult:
		w.put("Result")
	case api.ExBin:
		w.side(e.Kids[0])
		w.put(e.Name)
		w.side(e.Kids[1])
	case api.ExUn:
		w.put(e.Name)
		w.side(e.Kids[0])
	case api.ExOld:
		w.put("old")
		w.side(e.Kids[0])
	case api.ExAttached:
		w.put("attached")
		w.side(e.Kids[0])
		w.put("as", e.Name)
	case api.ExCall:
		args := e.Kids
		if e.N == 1 {
			w.side(e.Kids[0])
			w.put(".")
			args = args[1:]
		}
		w.put(e.Name)
		if len(args) > 0 {
			w.put("(")
			each(w, args, ",", w.expr)
			w.put(")")
		}
	}
}

func (w *loose) stmts(l []api.Stmt) {
	for _, s := range l {
		w.stmt(s)
		w.put(";")
	}
}

func (w *loose) second(word string, l []api.Expr) {
	if len(l) > 1 {
		w.put(word)
		w.expr(l[1])
	}
}

func (w *loose) stmt(s api.Stmt) {
	switch s.Kind {
	case api.StAssign:
		w.put(s.Name, ":=")
		w.expr(s.Exprs[0])
	case api.StCall:
		w.expr(s.Exprs[0])
	case api.StMake:
		w.put("create", s.Name, ".")
		w.bare(s.Exprs[0])
	case api.StIf:
		w.put("if")
		w.expr(s.Exprs[0])
		w.put("then")
		w.stmts(s.Body)
		if len(s.Else) > 0 || w.some() {
			w.put("else")
			w.stmts(s.Else)
		}
		w.put("end")
	case api.StLoop:
		w.put("from")
		w.stmts(s.Init)
		w.clauses("invariant", s.Tags)
		w.put("until")
		w.expr(s.Exprs[0])
		w.second("variant", s.Exprs)
		w.put("loop")
		w.stmts(s.Body)
		w.put("end")
	case api.StCheck:
		w.put("check")
		w.asserts(s.Tags)
		w.put("end")
	case api.StSep:
		w.put("separate")
		w.expr(s.Exprs[0])
		w.put("as", s.Name)
		w.second("when", s.Exprs)
		w.put("do")
		w.stmts(s.Body)
		w.put("end")
	case api.StRetry:
		w.put("retry")
	case api.StRaise:
		w.put("raise", strconv.Itoa(s.N))
	case api.StPut:
		w.put("put")
		w.expr(s.Exprs[0])
	}
}

func (w *loose) typed(t api.Type) {
	if t.Void {
		w.put("detachable")
	}
	if t.Sep {
		w.put("separate")
	}
	switch t.Kind {
	case api.TyInt:
		w.put("INTEGER")
	case api.TyBool:
		w.put("BOOLEAN")
	default:
		w.put(t.Name)
	}
	w.actuals(t.Args)
}

func (w *loose) actuals(l []api.Type) {
	if len(l) > 0 {
		w.put("[")
		each(w, l, ",", w.typed)
		w.put("]")
	}
}

func (w *loose) vars(l []api.Var) {
	each(w, l, ";", func(v api.Var) {
		w.put(v.Name, ":")
		w.typed(v.Type)
	})
}

func (w *loose) feature(f api.Feature) {
	w.put(f.Name)
	if len(f.Args) > 0 {
		w.put("(")
		w.vars(f.Args)
		w.put(")")
	}
	if f.Type.Kind != api.TyNone {
		w.put(":")
		w.typed(f.Type)
	}
	switch f.Kind {
	case api.FeAttr:
		w.put(";")
	case api.FeDeferred:
		w.put("deferred")
		w.clauses("require", f.Require)
		w.clauses("ensure", f.Ensure)
		w.put("end")
	case api.FeRoutine:
		w.clauses("require", f.Require)
		if len(f.Locals) > 0 {
			w.put("local")
			w.vars(f.Locals)
		}
		w.put("do")
		w.stmts(f.Body)
		w.clauses("ensure", f.Ensure)
		if f.Rescues {
			w.put("rescue")
			w.stmts(f.Rescue)
		}
		w.put("end")
	}
}

func (w *loose) class(c api.Class) {
	if c.Deferred {
		w.put("deferred")
	}
	w.put("class", c.Name)
	if len(c.Formals) > 0 {
		w.put("[")
		each(w, c.Formals, ",", func(f api.Formal) { w.put(f.Name, ":", f.Bound) })
		w.put("]")
	}
	if len(c.Parents) > 0 {
		w.put("inherit")
	}
	for _, p := range c.Parents {
		w.put(p.Name)
		w.actuals(p.Args)
		var pairs []string
		for _, r := range p.Rename {
			pairs = append(pairs, r.From+" as "+r.To)
		}
		w.list("rename", pairs)
		w.list("undefine", p.Undefine)
		w.list("redefine", p.Redefine)
		w.list("select", p.Select)
		w.put(";")
	}
	w.list("create", c.Create)
	for i, f := range c.Features {
		if i == 0 || !alike(f.Clients, c.Features[i-1].Clients) || w.some() {
			w.put("feature {")
			each(w, f.Clients, ",", func(s string) { w.put(s) })
			w.put("}")
		}
		w.feature(f)
	}
	w.clauses("invariant", c.Invariant)
	w.put("end")
}

// wordsOf returns the tokens that a loose writer writes.
func wordsOf[T any](r *chance, more bool, tree T, write func(*loose, T)) []string {
	w := &loose{chance: r, more: more}
	write(w, tree)
	return strings.Fields(strings.Join(w.out, " "))
}

// laid returns tokens as a text, with blanks, line feeds and comments between them.
func laid(r *chance, l []string) string {
	var b strings.Builder
	for _, s := range l {
		b.WriteString(pick(r, " ", " ", "  ", "\n", " -- class end ; (\n", "\n\n --\n"))
		b.WriteString(s)
	}
	b.WriteString(pick(r, "", " ", "\n", " -- the end", "\n-- deferred class A\n"))
	return b.String()
}
