package sure_test

import (
	"slices"
	"strings"

	"cosigner/api"
	"cosigner/flat"
	"cosigner/heir"
	"cosigner/kind"
)

// This file has the chapter's rules a second time: errors are returned, what is known is handed on, and what is set is told by all ways that lead to a node.

// judge looks at one feature, or at an invariant; made is the class that is created, or empty.
type judge struct {
	l       []api.Class
	flats   []api.Flat
	class   api.Class
	feature api.Feature
	made    string
	rest    []string          // all that needs setting: locals and Result, and attributes behind a dot
	ways    []map[string]bool // what each way to this node has set; none: it is not come to
	taken   []string          // names of variables, also of those that are not known here
	notes   []note
}

// note is what is found of a node.
type note struct {
	isExpr bool
	typed  api.Type
	set    []string
	use    api.Seed
	binds  api.Var
}

// env is what is known at a node.
type env struct {
	part string
	tags bool
	old  bool
	args map[string]api.Type
	locs map[string]api.Type
	open map[string]api.Type // bound names
	held []string            // those that a separate statement has bound
}

// bad is a rule that is not met.
type bad struct {
	at  int
	err api.Errno
}

// isIn tells whether something is in a list of words.
func isIn(word, words string) bool {
	return slices.Contains(strings.Fields(words), word)
}

func nameIsValid(name string) bool {
	const words = "and as attached check class create deferred detachable do else end ensure feature from if implies inherit invariant local loop not old or put raise redefine rename require rescue retry select separate then undefine until variant when true false void current result"
	if name == "" || len(name) > api.MaxName || isIn(name, words) {
		return false
	}
	return strings.Trim(name, "abcdefghijklmnopqrstuvwxyz0123456789_") == "" && strings.IndexByte("0123456789_", name[0]) < 0
}

// member returns a feature of a class.
func (j *judge) member(class, name string) (api.Member, bool) {
	for _, f := range j.flats {
		for _, m := range f.Members {
			if f.Name == class && m.Name == name {
				return m, true
			}
		}
	}
	return api.Member{}, false
}

// conforms is L3, of types that are right, but may be nested too deep.
func (j *judge) conforms(s, t api.Type) bool {
	if err := kind.Right(j.l, j.class.Name, t); err != api.OK && err != api.ErrLimit {
		return false
	}
	switch {
	case s.Kind == api.TyInt || s.Kind == api.TyBool || t.Kind == api.TyInt || t.Kind == api.TyBool:
		return s.Kind == t.Kind
	case t.Kind == api.TyNone:
		return false
	case s.Kind == api.TyNone:
		return t.Void
	case s.Void && !t.Void || s.Sep && !t.Sep:
		return false
	case t.Kind == api.TyClass && t.Name == "ANY":
		return true
	case t.Kind == api.TyFormal:
		return s.Kind == api.TyFormal && s.Name == t.Name
	case s.Kind == api.TyFormal:
		s = j.boundOf(s)
	}
	args, err := kind.Instance(j.l, s, t.Name)
	return err == api.OK && slices.EqualFunc(args, t.Args, kind.Same)
}

// boundOf returns the class type of a class type or a formal.
func (j *judge) boundOf(t api.Type) api.Type {
	if t.Kind == api.TyFormal {
		t, _ = kind.Bound(j.l, j.class.Name, t.Name)
	}
	return t
}

func needs(t api.Type) bool {
	return (t.Kind == api.TyClass || t.Kind == api.TyFormal) && !t.Void
}

// isSet tells whether all ways that lead here have set a name.
func (j *judge) isSet(name string) bool {
	for _, way := range j.ways {
		if !way[name] {
			return false
		}
	}
	return true
}

// allSet tells so of all attributes of what is created.
func (j *judge) allSet() bool {
	for _, name := range j.rest {
		if name[0] == '.' && !j.isSet(name) {
			return false
		}
	}
	return true
}

func (j *judge) setting(name string) {
	var out []map[string]bool
	for _, way := range j.ways {
		more := map[string]bool{name: true}
		for x := range way {
			more[x] = true
		}
		out = append(out, more)
	}
	j.ways = distinct(out)
}

// distinct returns ways, each one once.
func distinct(ways []map[string]bool) []map[string]bool {
	var out []map[string]bool
	for _, w := range ways {
		same := func(o map[string]bool) bool { return alike(keysOf(o), keysOf(w)) }
		if !slices.ContainsFunc(out, same) {
			out = append(out, w)
		}
	}
	return out
}

func keysOf(m map[string]bool) []string {
	var out []string
	for x := range m {
		out = append(out, x)
	}
	slices.Sort(out)
	return out
}

// actual is what an attribute of the class is in the class that is created.
func (j *judge) actual(name string) string {
	to, err := flat.Version(j.l, j.made, j.class.Name, name)
	if err != api.OK {
		return ""
	}
	return "." + to
}

// open begins a node.
func (j *judge) open(isExpr bool) int {
	n := note{isExpr: isExpr}
	for _, v := range append(slices.Clone(j.feature.Locals), api.Var{Name: "Result", Type: j.feature.Type}) {
		if needs(v.Type) && j.isSet(v.Name) {
			n.set = append(n.set, v.Name)
		}
	}
	j.notes = append(j.notes, n)
	return len(j.notes) - 1
}

// with returns what is known where names are known, too; the names have been bound already.
func (v env) with(names []string, all map[string]api.Type) env {
	open := map[string]api.Type{}
	for name, t := range v.open {
		open[name] = t
	}
	for _, name := range names {
		open[name] = all[name]
	}
	v.open = open
	return v
}

// allBound returns the names that nodes have bound so far.
func (j *judge) allBound() map[string]api.Type {
	out := map[string]api.Type{}
	for _, n := range j.notes {
		if n.binds.Name != "" {
			out[n.binds.Name] = n.binds.Type
		}
	}
	return out
}

// whenTrue returns the names that are bound if an expression is True.
func whenTrue(e api.Expr) []string {
	if e.Kind == api.ExAttached {
		return []string{e.Name}
	}
	if e.Kind == api.ExBin && e.Name == "and" {
		return slices.Concat(whenTrue(e.Kids[0]), whenTrue(e.Kids[1]))
	}
	return nil
}

// exprIsFormed is the rule ahead of all others.
func exprIsFormed(e api.Expr) bool {
	kids, known := map[int]int{api.ExInt: 0, api.ExBool: 0, api.ExVoid: 0, api.ExCurrent: 0, api.ExResult: 0, api.ExCall: len(e.Kids), api.ExBin: 2, api.ExUn: 1, api.ExOld: 1, api.ExAttached: 1}[e.Kind]
	named := isIn(string(rune('0'+e.Kind)), string([]rune{'0' + api.ExCall, ' ', '0' + api.ExBin, ' ', '0' + api.ExUn, ' ', '0' + api.ExAttached}))
	number := e.N == 0
	switch e.Kind {
	case api.ExInt:
		number = true
	case api.ExBool:
		number = e.N == 0 || e.N == 1
	case api.ExCall:
		number = e.N == 0 || e.N == 1 && len(e.Kids) > 0
	}
	return known && kids == len(e.Kids) && number && (named || e.Name == "")
}

// expr returns the type of an expression.
func (j *judge) expr(e api.Expr, v env, isStatement bool) (api.Type, *bad) {
	at := j.open(true)
	no := func(err api.Errno) (api.Type, *bad) { return api.Type{}, &bad{at, err} }
	if !exprIsFormed(e) {
		return no(api.ErrForm)
	}
	var kids []api.Type
	for i, k := range e.Kids {
		inner := v
		inner.old = v.old || e.Kind == api.ExOld
		if e.Kind == api.ExBin && i == 1 && isIn(e.Name, "and implies") {
			inner = inner.with(whenTrue(e.Kids[0]), j.allBound())
		}
		t, wrong := j.expr(k, inner, false)
		if wrong != nil {
			return t, wrong
		}
		kids = append(kids, t)
	}
	t, err := j.rule(at, e, v, kids)
	if err == api.OK && e.Kind == api.ExCall && t.Kind == api.TyNone && !isStatement {
		err = api.ErrType
	}
	if err != api.OK {
		return no(err)
	}
	j.notes[at].typed = t
	return t, nil
}

// rule is the row of an expression's kind.
func (j *judge) rule(at int, e api.Expr, v env, kids []api.Type) (api.Type, api.Errno) {
	number, truth := api.Type{Kind: api.TyInt}, api.Type{Kind: api.TyBool}
	wrong := func(is bool, err api.Errno) api.Errno {
		if is {
			return err
		}
		return api.OK
	}
	switch e.Kind {
	case api.ExInt:
		return number, wrong(e.N < 0 || e.N > api.MaxNum, api.ErrArg)
	case api.ExBool:
		return truth, api.OK
	case api.ExVoid:
		return api.Type{}, api.OK
	case api.ExCurrent:
		return j.current(), wrong(!j.allSet(), api.ErrVoid)
	case api.ExResult:
		if isIn(v.part, "require invariant") || v.old || j.feature.Type.Kind == api.TyNone {
			return number, api.ErrName
		}
		return j.feature.Type, wrong(needs(j.feature.Type) && !j.isSet("Result"), api.ErrVoid)
	case api.ExOld:
		return kids[0], wrong(v.part != "ensure" || v.old, api.ErrForm)
	case api.ExUn:
		if e.Name == "not" {
			return truth, wrong(kids[0].Kind != api.TyBool, api.ErrType)
		}
		return number, first(wrong(e.Name != "-", api.ErrForm), wrong(kids[0].Kind != api.TyInt, api.ErrType))
	case api.ExAttached:
		kids[0].Void = false
		err := j.bind(at, api.Var{Name: e.Name, Type: kids[0]})
		return truth, first(err, wrong(kids[0].Kind != api.TyClass && kids[0].Kind != api.TyFormal, api.ErrType))
	case api.ExBin:
		both := func(kind int) bool { return kids[0].Kind == kind && kids[1].Kind == kind }
		switch {
		case isIn(e.Name, "+ - * // %"):
			return number, wrong(!both(api.TyInt), api.ErrType)
		case isIn(e.Name, "< <= > >="):
			return truth, wrong(!both(api.TyInt), api.ErrType)
		case isIn(e.Name, "and or implies"):
			return truth, wrong(!both(api.TyBool), api.ErrType)
		case isIn(e.Name, "= /="):
			return truth, wrong(!j.comparable(kids[0], kids[1]), api.ErrType)
		}
		return truth, api.ErrForm
	}
	return j.call(at, e, v, kids)
}

// first returns the first error.
func first(l ...api.Errno) api.Errno {
	for _, err := range l {
		if err != api.OK {
			return err
		}
	}
	return api.OK
}

func (j *judge) current() api.Type {
	t := api.Type{Kind: api.TyClass, Name: j.class.Name}
	for _, f := range j.class.Formals {
		t.Args = append(t.Args, api.Type{Kind: api.TyFormal, Name: f.Name})
	}
	return t
}

func (j *judge) comparable(a, b api.Type) bool {
	plain := func(t api.Type) bool { return t.Kind == api.TyInt || t.Kind == api.TyBool }
	if plain(a) || plain(b) {
		return a.Kind == b.Kind
	}
	if a.Kind == api.TyNone && b.Kind == api.TyNone {
		return true
	}
	far := func(t api.Type) api.Type {
		t.Void = t.Kind != api.TyNone
		t.Sep = t.Kind == api.TyClass
		return t
	}
	return j.conforms(far(a), far(b)) || j.conforms(far(b), far(a))
}

// bind is the rule of a name that a node binds.
func (j *judge) bind(at int, v api.Var) api.Errno {
	if !nameIsValid(v.Name) {
		return api.ErrName
	}
	if _, is := j.member(j.class.Name, v.Name); is || slices.Contains(j.taken, v.Name) {
		return api.ErrTwice
	}
	j.taken = append(j.taken, v.Name)
	j.notes[at].binds = v
	return api.OK
}

// call is the rows of ExCall.
func (j *judge) call(at int, e api.Expr, v env, kids []api.Type) (api.Type, api.Errno) {
	asserts := v.tags || isIn(v.part, "require ensure invariant")
	if e.N == 1 {
		target := kids[0]
		isHeld := e.Kids[0].Kind == api.ExCall && e.Kids[0].N == 0 && slices.Contains(v.held, e.Kids[0].Name)
		class := j.boundOf(target)
		m, found := j.member(class.Name, e.Name)
		switch {
		case target.Kind != api.TyClass && target.Kind != api.TyFormal:
			return target, api.ErrType
		case target.Void:
			return target, api.ErrVoid
		case target.Sep && (!isHeld || asserts):
			return target, api.ErrState
		case !found:
			return target, api.ErrName
		case !j.isClient(j.class.Name, m):
			return target, api.ErrClash
		}
		return j.calls(at, class, m, asserts, kids[1:])
	}
	arg, isArg := v.args[e.Name]
	local, isLocal := v.locs[e.Name]
	open, isOpen := v.open[e.Name]
	if isArg || isLocal || isOpen {
		switch {
		case len(kids) > 0:
			return arg, api.ErrForm
		case isLocal && isIn(v.part, "require ensure invariant"):
			return arg, api.ErrName
		case isLocal && needs(local) && !j.isSet(e.Name):
			return arg, api.ErrVoid
		case isArg:
			return arg, api.OK
		case isLocal:
			return local, api.OK
		}
		return open, api.OK
	}
	m, found := j.member(j.class.Name, e.Name)
	if !found {
		return arg, api.ErrName
	}
	t, err := j.calls(at, j.current(), m, asserts, kids)
	if err == api.OK && j.made != "" {
		if m.Kind == api.FeAttr && slices.Contains(j.rest, j.actual(m.Name)) && !j.isSet(j.actual(m.Name)) || m.Kind != api.FeAttr && !j.allSet() {
			err = api.ErrVoid
		}
	}
	return t, err
}

func (j *judge) isClient(class string, m api.Member) bool {
	for _, c := range m.Clients {
		if is, err := heir.Is(j.l, class, c); c == "ANY" || err == api.OK && is {
			return true
		}
	}
	return false
}

// calls is the rules for calls.
func (j *judge) calls(at int, target api.Type, m api.Member, asserts bool, args []api.Type) (api.Type, api.Errno) {
	if asserts && m.Kind != api.FeAttr {
		return target, api.ErrForm
	}
	if len(args) != len(m.Args) {
		return target, api.ErrArg
	}
	for i, a := range args {
		want, ok := j.seen(target, m.Args[i].Type)
		if !ok || target.Sep && (want.Kind == api.TyClass || want.Kind == api.TyFormal) && !want.Sep || !j.conforms(a, want) {
			return target, api.ErrType
		}
	}
	t, ok := j.seen(target, m.Type)
	if !ok || target.Sep && t.Kind == api.TyFormal {
		return target, api.ErrType
	}
	if target.Sep && t.Kind == api.TyClass {
		t.Sep = true
	}
	j.notes[at].use = api.Seed{Class: target.Name, Name: m.Name}
	return t, api.OK
}

// seen is a type of the target's class at the target.
func (j *judge) seen(target, t api.Type) (api.Type, bool) {
	if kind.Right(j.l, target.Name, t) != api.OK {
		return t, false
	}
	if t.Kind == api.TyNone || t.Kind == api.TyInt || t.Kind == api.TyBool || t.Kind == api.TyClass && len(t.Args) == 0 {
		return t, true
	}
	out, err := kind.Seen(j.l, target, target.Name, t)
	return out, err == api.OK
}
