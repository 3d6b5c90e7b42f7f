package mean_test

import (
	"fmt"
	"math/rand"
	"slices"

	"cosigner/api"
	"cosigner/flat"
)

// chance makes systems; the chance is the test's own, and the same each time. In quiet ones assertions neither call routines nor bind names.
type chance struct {
	*rand.Rand
	isQuiet bool
}

func newChance(seed int64) chance {
	return chance{Rand: rand.New(rand.NewSource(seed))}
}

func pick[T any](r chance, l ...T) T {
	return l[r.Intn(len(l))]
}

// one tells, once in n times, that something is so.
func (r chance) one(n int) bool { return r.Intn(n) == 0 }

// system returns a system that has flat forms, and in which most runs go on for a while.
func (r chance) system() []api.Class {
	l := r.headers(2 + r.Intn(4))
	for i := range l {
		for !r.declare(l, i) {
			if r.one(6) {
				l[i].Parents = nil
			}
		}
	}
	flats, err := flat.Flats(l)
	if err != api.OK {
		panic(fmt.Sprint(err, textOf(l)))
	}
	for i := range l {
		r.fill(l, i, flats)
	}
	r.Shuffle(len(l), func(i, j int) { l[i], l[j] = l[j], l[i] })
	return copied(l)
}

// headers returns classes with formals and parents alone.
func (r chance) headers(n int) []api.Class {
	var l []api.Class
	for i := range n {
		c := api.Class{Name: string(rune('A' + i))}
		if r.one(3) {
			c.Formals = append(c.Formals, api.Formal{Name: "G", Bound: "ANY"})
		}
		for _, p := range r.Perm(i)[:min(i, pick(r, 0, 0, 1, 1, 1, 2))] {
			c.Parents = append(c.Parents, api.Parent{Name: l[p].Name})
		}
		l = append(l, c)
	}
	for i := range l {
		for j := range l[i].Formals {
			if b := pick(r, l...); !r.one(3) {
				l[i].Formals[j].Bound = b.Name
			}
		}
		for j, p := range l[i].Parents {
			for range classOf(l, p.Name).Formals {
				l[i].Parents[j].Args = append(l[i].Parents[j].Args, r.reference(l, l[i], 1))
			}
		}
	}
	return l
}

// reference returns a type of objects.
func (r chance) reference(l []api.Class, c api.Class, deep int) api.Type {
	if len(c.Formals) > 0 && r.one(3) {
		return api.Type{Kind: api.TyFormal, Name: "G"}
	}
	t := api.Type{Kind: api.TyClass, Name: pick(r, l...).Name}
	for range classOf(l, t.Name).Formals {
		if deep == 0 {
			t.Args = append(t.Args, api.Type{Kind: api.TyClass, Name: "ANY"})
			continue
		}
		t.Args = append(t.Args, r.reference(l, c, deep-1))
	}
	return t
}

func (r chance) typeIn(l []api.Class, c api.Class) api.Type {
	switch r.Intn(5) {
	case 0, 1:
		return api.Type{Kind: api.TyInt}
	case 2:
		return api.Type{Kind: api.TyBool}
	}
	return r.reference(l, c, 2)
}

// declare gives a class features, without bodies as yet, and tells whether they fit those of its parents.
func (r chance) declare(l []api.Class, at int) bool {
	c := &l[at]
	c.Features, c.Deferred = nil, false
	letter := string(rune('a' + at))
	any := []string{"ANY"}
	for i := range r.Intn(4) {
		c.Features = append(c.Features, api.Feature{Kind: api.FeAttr, Name: fmt.Sprint(letter, "a", i), Type: r.typeIn(l, *c), Clients: any})
	}
	c.Features = append(c.Features, api.Feature{Kind: api.FeRoutine, Name: letter + "m", Clients: any})
	for i := range r.Intn(4) {
		f := api.Feature{Kind: api.FeRoutine, Name: fmt.Sprint(letter, i), Clients: any}
		for j := range r.Intn(3) {
			f.Args = append(f.Args, api.Var{Name: fmt.Sprint("v", j), Type: r.typeIn(l, *c)})
		}
		if r.one(2) {
			f.Type = r.typeIn(l, *c)
		}
		if r.one(8) {
			f.Kind = api.FeDeferred
		}
		c.Features = append(c.Features, f)
	}
	for i := range c.Parents {
		r.adapt(l, at, i)
	}
	x, is, err := flat.Clash(l[:at+1])
	if is && x.Kind == api.CnOpen {
		c.Deferred = true
		_, is, err = flat.Clash(l[:at+1])
	}
	return !is && err == api.OK
}

// adapt renames and redeclares some of what comes from a parent.
func (r chance) adapt(l []api.Class, at, parent int) {
	c := &l[at]
	p := &c.Parents[parent]
	p.Rename, p.Undefine, p.Redefine, p.Select = nil, nil, nil, nil
	f, err := flat.FlatOf(l[:at], p.Name)
	if err != api.OK {
		return
	}
	formals := classOf(l, p.Name).Formals
	for _, m := range f.Members {
		name := m.Name
		if r.one(5) {
			name = fmt.Sprint("r", at, m.Name)
			p.Rename = append(p.Rename, api.Pair{From: m.Name, To: name})
			if r.one(2) {
				p.Select = append(p.Select, name)
			}
		}
		isThere := slices.ContainsFunc(c.Features, func(x api.Feature) bool { return x.Name == name })
		if m.Kind == api.FeAttr || isThere || !r.one(3) {
			continue
		}
		x := api.Feature{Kind: api.FeRoutine, Name: name, Clients: []string{"ANY"}}
		for _, v := range m.Args {
			t, _ := flat.Subst(v.Type, formals, p.Args)
			x.Args = append(x.Args, api.Var{Name: v.Name, Type: t})
		}
		x.Type, _ = flat.Subst(m.Type, formals, p.Args)
		if m.Kind == api.FeRoutine {
			p.Redefine = append(p.Redefine, name)
		} else if len(x.Args) == 0 && x.Type.Kind != api.TyNone && r.one(2) {
			x.Kind = api.FeAttr
		}
		c.Features = append(c.Features, x)
	}
}

// fill gives the features of a class bodies and assertions.
func (r chance) fill(l []api.Class, at int, flats []api.Flat) {
	c := &l[at]
	w := &writer{chance: r, l: l, flats: flats, class: *c}
	if r.one(3) {
		c.Invariant = w.clauses(1+r.Intn(2), false)
	}
	for i := range c.Features {
		f := &c.Features[i]
		if f.Kind == api.FeAttr {
			continue
		}
		w.vars, w.result = slices.Clone(f.Args), nil
		if r.one(3) {
			f.Require = w.clauses(1+r.Intn(2), false)
		}
		if f.Type.Kind != api.TyNone {
			w.result = &f.Type
		}
		if r.one(3) {
			f.Ensure = w.clauses(1+r.Intn(2), true)
		}
		if f.Kind == api.FeRoutine {
			w.routine(f)
		}
	}
}

// writer writes the bodies and assertions of a class.
type writer struct {
	chance
	l                 []api.Class
	flats             []api.Flat
	class             api.Class
	vars              []api.Var
	locals            []api.Var
	result            *api.Type
	isClause, hasOlds bool
	isRescue          bool
	names             int
}

func integer(n int) api.Expr { return api.Expr{Kind: api.ExInt, N: n} }

func variable(name string) api.Expr { return api.Expr{Kind: api.ExCall, Name: name} }

func binary(op string, a, b api.Expr) api.Expr {
	return api.Expr{Kind: api.ExBin, Name: op, Kids: []api.Expr{a, b}}
}

func attached(e api.Expr, name string) api.Expr {
	return api.Expr{Kind: api.ExAttached, Name: name, Kids: []api.Expr{e}}
}

// fresh returns a name that nothing else has; seldom one that something has.
func (w *writer) fresh() string {
	w.names++
	if w.one(12) && len(w.vars) > 0 {
		return pick(w.chance, w.vars...).Name
	}
	return fmt.Sprint("x", w.names)
}

func (w *writer) routine(f *api.Feature) {
	f.Locals = []api.Var{
		{Name: "n", Type: api.Type{Kind: api.TyInt}},
		{Name: "t", Type: api.Type{Kind: api.TyBool}},
		{Name: "o", Type: w.reference(w.l, w.class, 1)},
		{Name: "p", Type: w.reference(w.l, w.class, 1)},
		{Name: "tries", Type: api.Type{Kind: api.TyInt}},
	}
	w.locals = f.Locals[:4]
	w.vars = append(slices.Clone(f.Args), w.locals...)
	f.Body = w.stmts(1+w.Intn(4), 2)
	if w.one(4) {
		f.Rescues, w.isRescue = true, true
		retry := []api.Stmt{{Kind: api.StAssign, Name: "tries", Exprs: []api.Expr{binary("+", variable("tries"), integer(1))}}, {Kind: api.StRetry}}
		f.Rescue = append(w.stmts(w.Intn(2), 1), api.Stmt{Kind: api.StIf, Exprs: []api.Expr{binary("<", variable("tries"), integer(w.Intn(3)))}, Body: retry})
		w.isRescue = false
	}
}

func (w *writer) clauses(n int, hasOlds bool) []api.Clause {
	vars := w.vars
	w.isClause, w.hasOlds = true, hasOlds
	var out []api.Clause
	for range n {
		out = append(out, api.Clause{Tag: "c", Expr: w.clause()})
		w.vars = vars
	}
	w.isClause, w.hasOlds = false, false
	return out
}

// tags returns clauses within a body.
func (w *writer) tags() []api.Clause {
	w.isClause = w.isQuiet
	e := w.clause()
	w.isClause = false
	return []api.Clause{{Tag: "c", Expr: e}}
}

// clause returns a truth that is true mostly.
func (w *writer) clause() api.Expr {
	e := w.truth(2)
	if !w.one(4) {
		return binary("or", e, api.Expr{Kind: api.ExBool, N: 1})
	}
	return e
}

func (w *writer) members(class string) []api.Member {
	for _, f := range w.flats {
		if f.Name == class {
			return f.Members
		}
	}
	return nil
}

// isOf tells whether a type is one of a kind; class types and formals are of one kind.
func isOf(t api.Type, kind int) bool {
	return t.Kind == kind || kind == api.TyClass && t.Kind == api.TyFormal
}

// source is an expression, and its type.
type source struct {
	e api.Expr
	t api.Type
}

// thing returns an expression that is read, or called, of a kind; nothing if none was found.
func (w *writer) thing(kind, deep int) (source, bool) {
	var all []source
	for _, v := range w.vars {
		all = append(all, source{variable(v.Name), v.Type})
	}
	if w.result != nil {
		all = append(all, source{api.Expr{Kind: api.ExResult}, *w.result})
	}
	all = append(all, w.self())
	for _, m := range w.members(w.class.Name) {
		if isOf(m.Type, kind) && w.mayCall(m) && (deep > 0 || len(m.Args) == 0) {
			e := variable(m.Name)
			e.Kids = w.args(m, deep-1)
			all = append(all, source{e, m.Type})
		}
	}
	all = slices.DeleteFunc(all, func(s source) bool { return !isOf(s.t, kind) })
	if deep > 0 && w.one(2) {
		if s, is := w.at(kind, deep-1); is {
			return s, true
		}
	}
	if len(all) == 0 {
		return source{}, false
	}
	return pick(w.chance, all...), true
}

func (w *writer) self() source {
	t := api.Type{Kind: api.TyClass, Name: w.class.Name}
	for _, f := range w.class.Formals {
		t.Args = append(t.Args, api.Type{Kind: api.TyFormal, Name: f.Name})
	}
	return source{api.Expr{Kind: api.ExCurrent}, t}
}

// isSilent tells whether neither routines may be called here, nor names bound.
func (w *writer) isSilent() bool {
	return w.isQuiet && w.isClause
}

// mayCall tells whether a member may be called here; in clauses routines are, seldom.
func (w *writer) mayCall(m api.Member) bool {
	return m.Kind == api.FeAttr || !w.isClause && w.one(2) || !w.isSilent() && w.one(20)
}

// at returns a call with a target.
func (w *writer) at(kind, deep int) (source, bool) {
	target, is := w.thing(api.TyClass, deep)
	if !is {
		return source{}, false
	}
	if w.one(2) {
		target = w.self()
	}
	class := target.t.Name
	if target.t.Kind == api.TyFormal && len(w.class.Formals) > 0 {
		class = w.class.Formals[0].Bound
	}
	ms := slices.DeleteFunc(slices.Clone(w.members(class)), func(m api.Member) bool { return !isOf(m.Type, kind) || !w.mayCall(m) })
	if len(ms) == 0 {
		return source{}, false
	}
	m := pick(w.chance, ms...)
	e := api.Expr{Kind: api.ExCall, N: 1, Name: m.Name, Kids: append([]api.Expr{target.e}, w.args(m, deep-1)...)}
	t, err := flat.Subst(m.Type, classOf(w.l, class).Formals, target.t.Args)
	return source{e, t}, err == api.OK
}

func (w *writer) args(m api.Member, deep int) []api.Expr {
	var out []api.Expr
	for _, v := range m.Args {
		out = append(out, w.valueOf(v.Type, deep))
	}
	return out
}

// valueOf returns an expression for something of a type.
func (w *writer) valueOf(t api.Type, deep int) api.Expr {
	deep = max(deep, 0)
	switch t.Kind {
	case api.TyInt:
		return w.number(deep)
	case api.TyBool:
		return w.truth(deep)
	}
	for range 4 {
		if s, is := w.thing(api.TyClass, deep); is && (s.t.Name == t.Name || w.one(9)) {
			return s.e
		}
	}
	if t.Name == w.class.Name {
		return api.Expr{Kind: api.ExCurrent}
	}
	return api.Expr{Kind: api.ExVoid}
}

func (w *writer) number(deep int) api.Expr {
	switch n := w.Intn(8); {
	case deep > 0 && n < 2:
		return binary(pick(w.chance, "+", "-", "*", "//", "%"), w.number(deep-1), w.number(deep-1))
	case deep > 0 && n == 2:
		return api.Expr{Kind: api.ExUn, Name: "-", Kids: []api.Expr{w.number(deep - 1)}}
	case deep > 0 && n == 3 && w.hasOlds:
		w.hasOlds = false
		result := w.result
		w.result = nil
		e := api.Expr{Kind: api.ExOld, Kids: []api.Expr{w.number(deep - 1)}}
		w.hasOlds, w.result = true, result
		return e
	case n < 7:
		if s, is := w.thing(api.TyInt, deep); is {
			return s.e
		}
	}
	return integer(pick(w.chance, 0, 1, 2, 3, 7, api.MaxNum))
}

func (w *writer) truth(deep int) api.Expr {
	switch n := w.Intn(9); {
	case deep > 0 && n < 2:
		return binary(pick(w.chance, "=", "/=", "<", "<=", ">", ">="), w.number(deep-1), w.number(deep-1))
	case deep > 0 && n < 4:
		left := w.truth(deep - 1)
		return binary(pick(w.chance, "and", "or", "implies"), left, w.truth(deep-1))
	case deep > 0 && n == 4:
		return api.Expr{Kind: api.ExUn, Name: "not", Kids: []api.Expr{w.truth(deep - 1)}}
	case n < 7:
		if s, is := w.thing(api.TyClass, deep); is {
			if w.one(3) || w.isSilent() {
				return binary(pick(w.chance, "=", "/="), s.e, w.valueOf(s.t, deep-1))
			}
			v := api.Var{Name: w.fresh(), Type: s.t}
			w.vars = append(slices.Clone(w.vars), v)
			return attached(s.e, v.Name)
		}
	case n == 7:
		if s, is := w.thing(api.TyBool, deep); is {
			return s.e
		}
	}
	return api.Expr{Kind: api.ExBool, N: w.Intn(2)}
}

func (w *writer) stmts(n, deep int) []api.Stmt {
	var out []api.Stmt
	for range n {
		out = append(out, w.stmt(deep))
	}
	return out
}

func (w *writer) stmt(deep int) api.Stmt {
	switch n := w.Intn(16); {
	case n < 4:
		return w.assign()
	case n < 6:
		return w.create()
	case n < 8:
		return w.callStmt()
	case n == 8:
		return api.Stmt{Kind: api.StCheck, Tags: w.tags()}
	case n == 9 && w.one(3):
		return api.Stmt{Kind: api.StRaise, N: w.Intn(100)}
	case n < 12 && deep > 0:
		cond := w.truth(2)
		return api.Stmt{Kind: api.StIf, Exprs: []api.Expr{cond}, Body: w.stmts(1+w.Intn(2), deep-1), Else: w.stmts(w.Intn(2), deep-1)}
	case n < 14 && deep > 0:
		return w.loop(deep - 1)
	}
	if w.one(3) {
		return api.Stmt{Kind: api.StPut, Exprs: []api.Expr{w.truth(2)}}
	}
	return api.Stmt{Kind: api.StPut, Exprs: []api.Expr{w.number(2)}}
}

// targets returns what may be assigned.
func (w *writer) targets() []api.Var {
	out := slices.Clone(w.locals)
	if w.result != nil {
		out = append(out, api.Var{Name: "Result", Type: *w.result})
	}
	for _, m := range w.members(w.class.Name) {
		if m.Kind == api.FeAttr {
			out = append(out, api.Var{Name: m.Name, Type: m.Type}, api.Var{Name: m.Name, Type: m.Type})
		}
	}
	return out
}

func (w *writer) assign() api.Stmt {
	v := pick(w.chance, w.targets()...)
	return api.Stmt{Kind: api.StAssign, Name: v.Name, Exprs: []api.Expr{w.valueOf(v.Type, 2)}}
}

func (w *writer) create() api.Stmt {
	for range 9 {
		v := pick(w.chance, w.targets()...)
		c := classOf(w.l, v.Type.Name)
		if v.Type.Kind != api.TyClass || c.Name == "" || c.Deferred {
			continue
		}
		m := pick(w.chance, w.members(c.Name)...)
		if m.Kind == api.FeRoutine && m.Type.Kind == api.TyNone {
			return api.Stmt{Kind: api.StMake, Name: v.Name, Exprs: []api.Expr{{Kind: api.ExCall, Name: m.Name, Kids: w.args(m, 1)}}}
		}
	}
	return w.assign()
}

func (w *writer) callStmt() api.Stmt {
	if s, is := w.at(pick(w.chance, api.TyNone, api.TyNone, api.TyInt, api.TyClass), 2); is && s.e.Kind == api.ExCall {
		return api.Stmt{Kind: api.StCall, Exprs: []api.Expr{s.e}}
	}
	m := pick(w.chance, w.members(w.class.Name)...)
	return api.Stmt{Kind: api.StCall, Exprs: []api.Expr{{Kind: api.ExCall, Name: m.Name, Kids: w.args(m, 1)}}}
}

// loop returns a loop that ends mostly.
func (w *writer) loop(deep int) api.Stmt {
	to := integer(w.Intn(4))
	s := api.Stmt{Kind: api.StLoop, Init: []api.Stmt{{Kind: api.StAssign, Name: "n", Exprs: []api.Expr{integer(0)}}}, Exprs: []api.Expr{binary(">=", variable("n"), to)}}
	if w.one(2) {
		s.Exprs = append(s.Exprs, binary("-", to, variable("n")))
	}
	if w.one(2) {
		s.Tags = w.tags()
	}
	s.Body = w.stmts(w.Intn(3), deep)
	next := integer(1)
	if w.one(6) {
		next = w.number(1)
	}
	s.Body = append(s.Body, api.Stmt{Kind: api.StAssign, Name: "n", Exprs: []api.Expr{binary("+", variable("n"), next)}})
	return s
}

// damage changes some expressions and statements of a system in some way.
func (r chance) damage(l []api.Class) {
	var exprs []*api.Expr
	var stmts []*api.Stmt
	var expr func(*api.Expr)
	expr = func(e *api.Expr) {
		exprs = append(exprs, e)
		for i := range e.Kids {
			expr(&e.Kids[i])
		}
	}
	clauses := func(l []api.Clause) {
		for i := range l {
			expr(&l[i].Expr)
		}
	}
	var list func([]api.Stmt)
	list = func(l []api.Stmt) {
		for i := range l {
			s := &l[i]
			stmts = append(stmts, s)
			for j := range s.Exprs {
				expr(&s.Exprs[j])
			}
			clauses(s.Tags)
			list(s.Init)
			list(s.Body)
			list(s.Else)
		}
	}
	for i := range l {
		clauses(l[i].Invariant)
		for j := range l[i].Features {
			f := &l[i].Features[j]
			clauses(f.Require)
			clauses(f.Ensure)
			list(f.Body)
			list(f.Rescue)
		}
	}
	for range 1 + r.Intn(6) {
		if r.one(2) && len(stmts) > 0 {
			r.damageStmt(pick(r, stmts...), exprs)
		} else if len(exprs) > 0 {
			r.damageExpr(pick(r, exprs...), exprs)
		}
	}
}

func (r chance) damageExpr(e *api.Expr, all []*api.Expr) {
	switch r.Intn(8) {
	case 0:
		e.Kind = r.Intn(12)
	case 1:
		e.N = pick(r, -1, 0, 1, 2, api.MaxNum, api.MaxNum+1)
	case 2:
		e.Name = pick(r, all...).Name
	case 3:
		e.Kids = append(e.Kids, copied(*pick(r, all...)))
	case 4:
		e.Kids = e.Kids[:len(e.Kids)/2]
	case 5:
		*e = api.Expr{Kind: api.ExVoid}
	case 6:
		*e = api.Expr{Kind: pick(r, api.ExOld, api.ExUn, api.ExAttached), Name: pick(r, "-", "not", "y"), Kids: []api.Expr{copied(*e)}}
	case 7:
		*e = copied(*pick(r, all...))
	}
}

func (r chance) damageStmt(s *api.Stmt, all []*api.Expr) {
	switch r.Intn(8) {
	case 0:
		s.Kind = r.Intn(12)
	case 1:
		s.N = pick(r, -1, 0, 99, 100)
	case 2:
		s.Name = pick(r, "Result", "n", "o", "v0", "none")
	case 3:
		s.Exprs = append(s.Exprs, copied(*pick(r, all...)))
	case 4:
		s.Exprs = nil
	case 5:
		*s = pick(r, api.Stmt{Kind: api.StRetry}, api.Stmt{Kind: api.StRaise, N: 3}, api.Stmt{Kind: api.StSep})
	case 6:
		s.Else = append(s.Else, api.Stmt{Kind: api.StRaise, N: 5})
	case 7:
		s.Tags = append(s.Tags, api.Clause{Tag: "d", Expr: copied(*pick(r, all...))})
	}
}

// beginning returns a class, and a feature with which a run can begin.
func (r chance) beginning(l []api.Class) (string, string) {
	flats, _ := flat.Flats(l)
	var all [][2]string
	for _, f := range flats {
		for _, m := range f.Members {
			if !f.Deferred && m.Kind == api.FeRoutine && len(m.Args) == 0 && m.Type.Kind == api.TyNone {
				all = append(all, [2]string{f.Name, m.Name})
			}
		}
	}
	if len(all) == 0 {
		return "", ""
	}
	x := pick(r, all...)
	return x[0], x[1]
}
