package sure_test

import (
	"slices"

	"cosigner/api"
	"cosigner/flat"
	"cosigner/kind"
)

// stmtIsFormed is the rule ahead of all others.
func stmtIsFormed(s api.Stmt) bool {
	word, known := map[int]string{
		api.StAssign: "1 name", api.StCall: "1", api.StMake: "1 name", api.StIf: "1 body else", api.StLoop: "1 2 tags init body",
		api.StCheck: "0 tags", api.StSep: "1 2 name body", api.StRetry: "0", api.StRaise: "0 n", api.StPut: "1",
	}[s.Kind]
	count := [...]string{"0", "1", "2", "3"}[min(len(s.Exprs), 3)]
	for what, is := range map[string]bool{"name": s.Name != "", "n": s.N != 0, "tags": len(s.Tags) > 0, "init": len(s.Init) > 0, "body": len(s.Body) > 0, "else": len(s.Else) > 0} {
		if is && !isIn(what, word) {
			return false
		}
	}
	return known && isIn(count, word)
}

func (j *judge) stmts(l []api.Stmt, v env) *bad {
	for _, s := range l {
		at := j.open(false)
		if !stmtIsFormed(s) {
			return &bad{at, api.ErrForm}
		}
		if wrong := j.stmt(at, s, v); wrong != nil {
			return wrong
		}
	}
	return nil
}

// want is an expression with a type of one of some kinds.
func (j *judge) want(at int, e api.Expr, v env, kinds ...int) *bad {
	t, wrong := j.expr(e, v, false)
	if wrong == nil && !slices.Contains(kinds, t.Kind) {
		return &bad{at, api.ErrType}
	}
	return wrong
}

func (j *judge) stmt(at int, s api.Stmt, v env) *bad {
	switch s.Kind {
	case api.StAssign:
		t, wrong := j.expr(s.Exprs[0], v, false)
		if wrong != nil {
			return wrong
		}
		to, name, is := j.assigned(s.Name, v)
		if !is {
			return &bad{at, api.ErrName}
		}
		if !j.conforms(t, to) {
			return &bad{at, api.ErrType}
		}
		j.setting(name)
	case api.StCall:
		if s.Exprs[0].Kind != api.ExCall {
			return &bad{at, api.ErrForm}
		}
		t, wrong := j.expr(s.Exprs[0], v, true)
		if wrong == nil && t.Kind != api.TyNone {
			return &bad{at, api.ErrType}
		}
		return wrong
	case api.StMake:
		return j.creates(at, s, v)
	case api.StIf:
		return j.either(at, s, v)
	case api.StLoop:
		return j.around(at, s, v)
	case api.StCheck:
		v.tags = true
		return j.clauses(s.Tags, v)
	case api.StSep:
		return j.reserves(at, s, v)
	case api.StRetry:
		if v.part != "rescue" {
			return &bad{at, api.ErrState}
		}
		j.ways = nil
	case api.StRaise:
		if s.N < 0 || s.N > 99 {
			return &bad{at, api.ErrArg}
		}
		j.ways = nil
	case api.StPut:
		return j.want(at, s.Exprs[0], v, api.TyInt, api.TyBool)
	}
	return nil
}

// assigned returns the type of what is assigned, what is set by it, and whether it can be assigned.
func (j *judge) assigned(name string, v env) (api.Type, string, bool) {
	if name == "Result" && j.feature.Type.Kind != api.TyNone {
		return j.feature.Type, name, true
	}
	if t, is := v.locs[name]; is {
		return t, name, true
	}
	m, is := j.member(j.class.Name, name)
	if is && m.Kind == api.FeAttr && j.made != "" {
		return m.Type, j.actual(name), true
	}
	return m.Type, "", is && m.Kind == api.FeAttr
}

func (j *judge) creates(at int, s api.Stmt, v env) *bad {
	e := s.Exprs[0]
	if e.Kind != api.ExCall || e.N != 0 {
		return &bad{at, api.ErrForm}
	}
	j.open(true)
	var args []api.Type
	for _, k := range e.Kids {
		t, wrong := j.expr(k, v, false)
		if wrong != nil {
			return wrong
		}
		args = append(args, t)
	}
	t, name, can := j.assigned(s.Name, v)
	if !can {
		return &bad{at, api.ErrName}
	}
	if t.Kind != api.TyClass || t.Name == "ANY" {
		return &bad{at, api.ErrType}
	}
	of := api.Class{}
	for _, c := range j.l {
		if c.Name == t.Name {
			of = c
		}
	}
	if of.Deferred {
		return &bad{at, api.ErrState}
	}
	m, is := j.member(t.Name, e.Name)
	if !is || !slices.Contains(of.Create, e.Name) {
		return &bad{at, api.ErrNone}
	}
	t.Void = false
	back, err := j.calls(at, t, m, v.tags, args)
	if err == api.OK && back.Kind != api.TyNone {
		err = api.ErrType
	}
	if err != api.OK {
		return &bad{at, err}
	}
	j.setting(name)
	return nil
}

func (j *judge) either(at int, s api.Stmt, v env) *bad {
	if wrong := j.want(at, s.Exprs[0], v, api.TyBool); wrong != nil {
		return wrong
	}
	ahead := j.ways
	if wrong := j.stmts(s.Body, v.with(whenTrue(s.Exprs[0]), j.allBound())); wrong != nil {
		return wrong
	}
	then := j.ways
	j.ways = ahead
	wrong := j.stmts(s.Else, v)
	j.ways = distinct(slices.Concat(then, j.ways))
	return wrong
}

func (j *judge) around(at int, s api.Stmt, v env) *bad {
	if wrong := j.stmts(s.Init, v); wrong != nil {
		return wrong
	}
	tags := v
	tags.tags = true
	if wrong := j.clauses(s.Tags, tags); wrong != nil {
		return wrong
	}
	if wrong := j.want(at, s.Exprs[0], v, api.TyBool); wrong != nil {
		return wrong
	}
	if len(s.Exprs) > 1 {
		if wrong := j.want(at, s.Exprs[1], v, api.TyInt); wrong != nil {
			return wrong
		}
	}
	ahead := j.ways
	wrong := j.stmts(s.Body, v)
	j.ways = distinct(slices.Concat(ahead, j.ways)) // the body is gone through never, or some times
	return wrong
}

func (j *judge) reserves(at int, s api.Stmt, v env) *bad {
	t, wrong := j.expr(s.Exprs[0], v, false)
	if wrong != nil {
		return wrong
	}
	err := api.OK
	switch {
	case t.Kind != api.TyClass || !t.Sep:
		err = api.ErrType
	case t.Void:
		err = api.ErrVoid
	default:
		err = j.bind(at, api.Var{Name: s.Name, Type: t})
	}
	if err != api.OK {
		return &bad{at, err}
	}
	v = v.with([]string{s.Name}, j.allBound())
	v.held = append(slices.Clone(v.held), s.Name)
	if len(s.Exprs) > 1 {
		if wrong := j.want(at, s.Exprs[1], v, api.TyBool); wrong != nil {
			return wrong
		}
	}
	return j.stmts(s.Body, v)
}

func (j *judge) clauses(l []api.Clause, v env) *bad {
	for _, c := range l {
		at := len(j.notes)
		if !nameIsValid(c.Tag) {
			return &bad{at, api.ErrName}
		}
		if wrong := j.want(at, c.Expr, v, api.TyBool); wrong != nil {
			return wrong
		}
	}
	return nil
}

// sizeOf returns how many nodes expressions and statements have, and how deep they are nested.
func sizeOf(exprs []api.Expr, tags []api.Clause, lists ...[]api.Stmt) (int, int) {
	n, deep := 0, 0
	add := func(more, depth int) { n, deep = n+more, max(deep, depth) }
	for _, e := range exprs {
		inner, depth := sizeOf(e.Kids, nil)
		add(inner+1, depth+1)
	}
	for _, c := range tags {
		add(sizeOf([]api.Expr{c.Expr}, nil))
	}
	for _, l := range lists {
		for _, s := range l {
			inner, depth := 0, 0
			switch s.Kind {
			case api.StLoop:
				inner, depth = sizeOf(s.Exprs, s.Tags, s.Init, s.Body)
			case api.StSep:
				inner, depth = sizeOf(s.Exprs, nil, s.Body)
			default:
				inner, depth = sizeOf(s.Exprs, s.Tags, s.Init, s.Body, s.Else)
			}
			add(inner+1, depth+1)
		}
	}
	return n, deep
}

// header is what is asked of a feature besides its nodes.
func (j *judge) header() api.Errno {
	f := j.feature
	empty := f
	switch f.Kind {
	case api.FeAttr:
		empty = api.Feature{Kind: f.Kind, Name: f.Name, Clients: f.Clients, Type: f.Type}
	case api.FeDeferred:
		empty.Locals, empty.Body, empty.Rescue, empty.Rescues = nil, nil, nil, false
	case api.FeRoutine:
		if !f.Rescues {
			empty.Rescue = nil
		}
	}
	if !alike(f, empty) {
		return api.ErrForm
	}
	n, deep := sizeOf(nil, slices.Concat(f.Require, f.Ensure), f.Body, f.Rescue)
	if len(f.Args) > api.MaxVars || len(f.Locals) > api.MaxVars || n > api.MaxParts || deep > api.MaxNest {
		return api.ErrLimit
	}
	for _, v := range slices.Concat(f.Args, f.Locals) {
		_, is := j.member(j.class.Name, v.Name)
		switch {
		case !nameIsValid(v.Name):
			return api.ErrName
		case is || slices.Contains(j.taken, v.Name):
			return api.ErrTwice
		}
		if err := kind.Right(j.l, j.class.Name, v.Type); err != api.OK {
			return err
		}
		if v.Type.Kind == api.TyNone {
			return api.ErrType
		}
		j.taken = append(j.taken, v.Name)
	}
	if err := kind.Right(j.l, j.class.Name, f.Type); err != api.OK {
		return err
	}
	origins, _ := flat.Origins(j.l, j.class.Name, f.Name)
	for _, o := range origins {
		for _, p := range j.class.Parents {
			if o.Parent != p.Name {
				continue
			}
			m, _ := flat.MemberOf(j.l, o.Parent, o.Name)
			formals := j.l[slices.IndexFunc(j.l, func(c api.Class) bool { return c.Name == p.Name })].Formals
			t, _ := flat.Subst(m.Type, formals, p.Args)
			if t.Kind != api.TyNone && !j.conforms(f.Type, t) {
				return api.ErrType
			}
		}
	}
	return api.OK
}

// whole looks at a feature as a whole.
func (j *judge) whole() *bad {
	f := j.feature
	if err := j.header(); err != api.OK {
		return &bad{-1, err}
	}
	v := env{args: map[string]api.Type{}, locs: map[string]api.Type{}}
	for _, x := range f.Args {
		v.args[x.Name] = x.Type
	}
	for _, x := range f.Locals {
		v.locs[x.Name] = x.Type
	}
	j.ways = []map[string]bool{{}}
	v.part = "require"
	if wrong := j.clauses(f.Require, v); wrong != nil {
		return wrong
	}
	v.part = "body"
	if wrong := j.stmts(f.Body, v); wrong != nil {
		return wrong
	}
	end := j.ways
	v.part = "ensure"
	j.setting("Result")
	if wrong := j.clauses(f.Ensure, v); wrong != nil {
		return wrong
	}
	v.part = "rescue"
	j.ways = []map[string]bool{{}}
	if wrong := j.stmts(f.Rescue, v); wrong != nil {
		return wrong
	}
	j.ways = end
	if f.Kind == api.FeRoutine && (needs(f.Type) && !j.isSet("Result") || !j.allSet()) {
		return &bad{-1, api.ErrVoid}
	}
	return nil
}

// invariant looks at the invariant of the class.
func (j *judge) invariant() *bad {
	if n, deep := sizeOf(nil, j.class.Invariant); n > api.MaxParts || deep > api.MaxNest {
		return &bad{-1, api.ErrLimit}
	}
	j.ways = []map[string]bool{{}}
	return j.clauses(j.class.Invariant, env{part: "invariant"})
}
