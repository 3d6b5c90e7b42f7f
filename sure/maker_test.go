package sure_test

import (
	"fmt"
	"slices"

	"cosigner/api"
	"cosigner/flat"
	"cosigner/kind"
)

// maker writes what is within a feature; most of it is right, but for slips (one in so many choices; 0: none).
type maker struct {
	chance
	measure
	class   api.Class
	slip    int
	j       *judge // for what conforms to what
	feature *api.Feature
	part    string
	known   []api.Var // bound names
	held    []string
	set     map[string]bool
	tags    bool
	old     bool
	bound   int
	unset   []string        // attributes that must be set ahead of all else
	fits    map[string]bool // which types conform to which, as far as it is known
	seen    map[string]sight
}

// sight is a type as it is seen at a target, if it is right.
type sight struct {
	t   api.Type
	err api.Errno
}

// keyOf returns a text that only this type has.
func keyOf(t api.Type) string {
	key := []byte{'(', byte('0' + t.Kind), '0', '0'}
	if t.Void {
		key[2]++
	}
	if t.Sep {
		key[3]++
	}
	out := string(key) + t.Name
	for _, a := range t.Args {
		out += keyOf(a)
	}
	return out + ")"
}

func (m *maker) conforms(s, t api.Type) bool {
	key := keyOf(s) + keyOf(t)
	is, known := m.fits[key]
	if !known {
		is = m.j.conforms(s, t)
		m.fits[key] = is
	}
	return is
}

// at returns a type of a class's feature as it is seen at a target.
func (m *maker) at(target, t api.Type) (api.Type, api.Errno) {
	key := keyOf(target) + keyOf(t)
	x, known := m.seen[key]
	if !known {
		x.t, x.err = kind.Seen(m.l, target, target.Name, t)
		m.seen[key] = x
	}
	return x.t, x.err
}

func (m *maker) begin(f *api.Feature, part string) {
	m.feature, m.part, m.known, m.held, m.set = f, part, nil, nil, map[string]bool{}
}

func (m *maker) slips() bool { return m.slip > 0 && m.one(m.slip) }

func (m *maker) asserts() bool {
	return m.tags || m.part != "body" && m.part != "rescue"
}

// routine writes a routine.
func (m *maker) routine(f *api.Feature) {
	m.bound = 0
	m.begin(f, "require")
	if m.one(3) {
		f.Require = m.clauses(1 + m.Intn(2))
	}
	if f.Kind == api.FeRoutine {
		f.Locals = m.vars(m.l, m.class, "w", m.Intn(4))
		m.begin(f, "body")
		f.Body = m.body()
	}
	if m.one(3) {
		m.part = "ensure"
		f.Ensure = m.clauses(1 + m.Intn(2))
	}
	if f.Kind == api.FeRoutine && m.one(4) {
		m.begin(f, "rescue")
		f.Rescues = true
		f.Rescue = m.stmts(1+m.Intn(2), 2)
		if m.one(2) {
			f.Rescue = append(f.Rescue, api.Stmt{Kind: api.StRetry})
		}
	}
}

// body writes a body; attributes, if objects may be created by it, Result and most locals are set first.
func (m *maker) body() []api.Stmt {
	var names []string
	if m.feature.Type.Kind == api.TyNone {
		for _, x := range m.flat(m.class.Name).Members {
			if x.Kind == api.FeAttr && needs(x.Type) {
				names = append(names, x.Name)
			}
		}
	}
	for _, v := range m.feature.Locals {
		if !m.one(3) {
			names = append(names, v.Name)
		}
	}
	var out []api.Stmt
	m.unset = nil
	for _, name := range names {
		if x, is := m.member(m.class.Name, name); is && !m.one(20) {
			m.unset = append(m.unset, x.Name)
		}
	}
	for _, name := range names {
		out = append(out, m.setter(name))
		m.unset = slices.DeleteFunc(m.unset, func(x string) bool { return x == name })
		if m.one(6) {
			out = append(out, m.stmt(2))
		}
	}
	if m.feature.Type.Kind != api.TyNone {
		out = append(out, m.stmts(m.Intn(2), 2)...)
		out = append(out, m.setter("Result"))
	}
	return append(out, m.stmts(m.Intn(4), 3)...)
}

// typeOf returns the type of what can be assigned.
func (m *maker) typeOf(name string) api.Type {
	if name == "Result" {
		return m.feature.Type
	}
	for _, v := range m.feature.Locals {
		if v.Name == name {
			return v.Type
		}
	}
	x, _ := m.member(m.class.Name, name)
	return x.Type
}

// setter sets a variable.
func (m *maker) setter(name string) api.Stmt {
	t := m.typeOf(name)
	var s api.Stmt
	c := classOf(m.l, t.Name)
	e, found := m.find(t, 2)
	creates := false
	if t.Kind == api.TyClass && len(c.Create) > 0 {
		s, creates = m.create(name, t, c)
	}
	switch {
	case creates && (!found || m.one(2)):
	case !found && m.one(3):
		return api.Stmt{Kind: api.StRaise, N: m.Intn(100)}
	case !found:
		return m.stmt(0)
	default:
		s = api.Stmt{Kind: api.StAssign, Name: name, Exprs: []api.Expr{e}}
	}
	m.set[name] = true
	return s
}

func (m *maker) create(name string, t api.Type, c api.Class) (api.Stmt, bool) {
	f := pick(m.chance, c.Create...)
	x, _ := m.member(c.Name, f)
	t.Void = false
	args, is := m.args(t, x, 1)
	return api.Stmt{Kind: api.StMake, Name: name, Exprs: []api.Expr{{Kind: api.ExCall, Name: f, Kids: args}}}, is
}

// args writes the arguments of a call, and tells whether there are such ones.
func (m *maker) args(target api.Type, x api.Member, deep int) ([]api.Expr, bool) {
	var out []api.Expr
	all := true
	for _, v := range x.Args {
		t, err := m.at(target, v.Type)
		if err != api.OK {
			t = v.Type
		}
		e, is := m.find(t, deep-1)
		out, all = append(out, e), all && is && (!target.Sep || !needs(attachedType(t)) || t.Sep)
	}
	if m.slips() {
		out = append(out, api.Expr{Kind: api.ExInt})
	}
	return out, all || m.slips()
}

func attachedType(t api.Type) api.Type {
	t.Void = false
	return t
}

func (m *maker) stmts(n, deep int) []api.Stmt {
	var out []api.Stmt
	for range n {
		out = append(out, m.stmt(deep))
	}
	return out
}

// apartly writes something in which names are known, and behind which all is set that was set ahead.
func (m *maker) apartly(names []api.Var, write func()) {
	known, set := m.known, m.set
	m.known, m.set = append(slices.Clone(known), names...), map[string]bool{}
	for x := range set {
		m.set[x] = true
	}
	write()
	m.known, m.set = known, set
}

func (m *maker) stmt(deep int) api.Stmt {
	if deep == 0 {
		return api.Stmt{Kind: api.StPut, Exprs: []api.Expr{m.expr(api.Type{Kind: api.TyInt}, 1)}}
	}
	switch pick(m.chance, "assign", "assign", "call", "call", "make", "if", "if", "loop", "check", "separate", "separate", "raise", "put", "local") {
	case "assign", "make":
		if names := m.settable(); len(names) > 0 {
			return m.setter(pick(m.chance, names...))
		}
	case "call":
		if e, found := m.procedure(); found {
			return api.Stmt{Kind: api.StCall, Exprs: []api.Expr{e}}
		}
	case "if":
		return m.branch(deep)
	case "loop":
		return m.loop(deep)
	case "check":
		m.tags = true
		s := api.Stmt{Kind: api.StCheck, Tags: m.clauses(1)}
		m.tags = false
		return s
	case "separate":
		if s, found := m.separate(deep); found {
			return s
		}
	case "raise":
		if m.one(4) {
			return api.Stmt{Kind: api.StRaise, N: m.Intn(100)}
		}
	}
	return api.Stmt{Kind: api.StPut, Exprs: []api.Expr{m.expr(api.Type{Kind: pick(m.chance, api.TyInt, api.TyBool)}, 2)}}
}

// settable returns what can be assigned.
func (m *maker) settable() []string {
	var out []string
	for _, v := range m.feature.Locals {
		out = append(out, v.Name)
	}
	if m.feature.Type.Kind != api.TyNone {
		out = append(out, "Result")
	}
	for _, x := range m.flat(m.class.Name).Members {
		if x.Kind == api.FeAttr {
			out = append(out, x.Name)
		}
	}
	return out
}

func (m *maker) branch(deep int) api.Stmt {
	e, names := m.condition(deep)
	s := api.Stmt{Kind: api.StIf, Exprs: []api.Expr{e}}
	m.apartly(names, func() { s.Body = m.stmts(m.Intn(3), deep-1) })
	if m.one(2) {
		m.apartly(nil, func() { s.Else = m.stmts(1+m.Intn(2), deep-1) })
	}
	return s
}

// condition writes a condition that may bind names.
func (m *maker) condition(deep int) (api.Expr, []api.Var) {
	var e api.Expr
	var names []api.Var
	if !m.one(3) {
		e, names = m.binder()
	}
	if names == nil {
		return m.expr(api.Type{Kind: api.TyBool}, deep), nil
	}
	if m.one(2) {
		right, more := api.Expr{}, []api.Var(nil)
		m.apartly(names, func() {
			if m.one(2) {
				right, more = m.binder()
			}
			if more == nil {
				right = m.expr(api.Type{Kind: api.TyBool}, 1)
			}
		})
		return api.Expr{Kind: api.ExBin, Name: "and", Kids: []api.Expr{e, right}}, append(names, more...)
	}
	return e, names
}

// binder writes an attached.
func (m *maker) binder() (api.Expr, []api.Var) {
	e, t, found := m.any(1)
	if !found {
		return api.Expr{}, nil
	}
	t.Void = false
	v := api.Var{Name: m.name(), Type: t}
	return api.Expr{Kind: api.ExAttached, Name: v.Name, Kids: []api.Expr{e}}, []api.Var{v}
}

func (m *maker) name() string {
	m.bound++
	if m.slips() {
		m.bound--
	}
	return fmt.Sprint("x", m.bound)
}

func (m *maker) loop(deep int) api.Stmt {
	s := api.Stmt{Kind: api.StLoop}
	s.Init = m.stmts(m.Intn(2), deep-1)
	m.tags = true
	s.Tags = m.clauses(m.Intn(2))
	m.tags = false
	s.Exprs = []api.Expr{m.expr(api.Type{Kind: api.TyBool}, 2)}
	if m.one(2) {
		s.Exprs = append(s.Exprs, m.expr(api.Type{Kind: api.TyInt}, 2))
	}
	m.apartly(nil, func() { s.Body = m.stmts(m.Intn(3), deep-1) })
	return s
}

func (m *maker) separate(deep int) (api.Stmt, bool) {
	for range 12 {
		e, t, found := m.any(1)
		if !found || t.Kind != api.TyClass || !t.Sep || t.Void {
			continue
		}
		s := api.Stmt{Kind: api.StSep, Name: m.name(), Exprs: []api.Expr{e}}
		m.held = append(m.held, s.Name)
		known := m.known
		m.known = append(slices.Clone(known), api.Var{Name: s.Name, Type: t})
		if m.one(3) {
			s.Exprs = append(s.Exprs, m.expr(api.Type{Kind: api.TyBool}, 2))
		}
		s.Body = m.stmts(m.Intn(3), deep-1)
		m.known, m.held = known, m.held[:len(m.held)-1]
		return s, true
	}
	return api.Stmt{}, false
}

func (m *maker) clauses(n int) []api.Clause {
	var out []api.Clause
	for i := range n {
		out = append(out, api.Clause{Tag: fmt.Sprint("t", i), Expr: m.expr(api.Type{Kind: api.TyBool}, 3)})
	}
	return out
}

// variables returns the variables that may be read here.
func (m *maker) variables() []api.Var {
	out := slices.Concat(m.feature.Args, m.known)
	if m.part == "body" || m.part == "rescue" {
		for _, v := range m.feature.Locals {
			if !needs(v.Type) || m.set[v.Name] || m.slips() {
				out = append(out, v)
			}
		}
	}
	isThere := m.part != "require" && m.part != "invariant" && !m.old && m.feature.Type.Kind != api.TyNone
	if isThere && (m.part == "ensure" || !needs(m.feature.Type) || m.set["Result"]) {
		out = append(out, api.Var{Name: "Result", Type: m.feature.Type})
	}
	return out
}

func variable(v api.Var) api.Expr {
	if v.Name == "Result" {
		return api.Expr{Kind: api.ExResult}
	}
	return api.Expr{Kind: api.ExCall, Name: v.Name}
}

// thing is an expression, with its type, that is not written in whole as yet.
type thing struct {
	typed api.Type
	write func() (api.Expr, bool)
}

// choose writes one of some things; of a few it is tried whether they can be written.
func (m *maker) choose(l []thing) (api.Expr, api.Type, bool) {
	for range min(len(l), 6) {
		x := pick(m.chance, l...)
		if e, is := x.write(); is {
			return e, x.typed, true
		}
	}
	return api.Expr{Kind: api.ExVoid}, api.Type{}, false
}

// things returns variables, attributes and calls, as far as they may stand here.
func (m *maker) things(deep int) []thing {
	var out []thing
	for _, v := range m.variables() {
		out = append(out, thing{v.Type, func() (api.Expr, bool) { return variable(v), true }})
	}
	if len(m.unset) == 0 {
		out = append(out, thing{m.j.current(), func() (api.Expr, bool) { return api.Expr{Kind: api.ExCurrent}, true }})
	}
	out = append(out, m.members(nil, m.j.current(), deep)...)
	if deep <= 0 || len(out) == 0 {
		return out
	}
	for range 3 {
		if x := pick(m.chance, out...); m.isTarget(x) {
			out = append(out, m.members(x.write, m.j.boundOf(x.typed), deep)...)
		}
	}
	return out
}

// isTarget tells whether something can be a target.
func (m *maker) isTarget(x thing) bool {
	if m.slips() {
		return x.typed.Kind == api.TyClass
	}
	e, _ := x.write()
	isHeld := e.Kind == api.ExCall && e.N == 0 && slices.Contains(m.held, e.Name)
	return needs(x.typed) && (!x.typed.Sep || isHeld && !m.asserts())
}

// members returns the calls of the features of a target (Current, if there is none) that may stand here; procedures have no type.
func (m *maker) members(target func() (api.Expr, bool), t api.Type, deep int) []thing {
	var out []thing
	if t.Name == "ANY" {
		return nil
	}
	for _, x := range m.flat(t.Name).Members {
		at, err := m.at(t, x.Type)
		if target == nil && (slices.Contains(m.unset, x.Name) || len(m.unset) > 0 && x.Kind != api.FeAttr) {
			continue
		}
		fits := x.Kind == api.FeAttr || !m.asserts() && (deep > 0 || len(x.Args) == 0)
		if err != api.OK || !fits && !m.slips() || target != nil && !m.j.isClient(m.class.Name, x) && !m.slips() {
			continue
		}
		at.Sep = at.Sep || t.Sep && at.Kind == api.TyClass
		out = append(out, thing{at, func() (api.Expr, bool) {
			args, is := m.args(t, x, deep)
			if target == nil {
				return api.Expr{Kind: api.ExCall, Name: x.Name, Kids: args}, is
			}
			e, can := target()
			return api.Expr{Kind: api.ExCall, Name: x.Name, N: 1, Kids: append([]api.Expr{e}, args...)}, is && can
		}})
	}
	return out
}

// procedure writes a call that is a statement.
func (m *maker) procedure() (api.Expr, bool) {
	var l []thing
	for _, x := range m.things(2) {
		if x.typed.Kind == api.TyNone {
			l = append(l, x)
		}
	}
	e, _, found := m.choose(l)
	return e, found
}

// any writes an expression of an object.
func (m *maker) any(deep int) (api.Expr, api.Type, bool) {
	var l []thing
	for _, x := range m.things(deep) {
		if x.typed.Kind == api.TyClass || x.typed.Kind == api.TyFormal {
			l = append(l, x)
		}
	}
	return m.choose(l)
}

// expr writes an expression whose type conforms to a type, if there is one.
func (m *maker) expr(t api.Type, deep int) api.Expr {
	e, _ := m.find(t, deep)
	return e
}

// find writes so, and tells whether there is such an expression.
func (m *maker) find(t api.Type, deep int) (api.Expr, bool) {
	var l []thing
	for _, x := range m.things(deep) {
		if x.typed.Kind != api.TyNone && (m.conforms(x.typed, t) || m.slips()) {
			l = append(l, x)
		}
	}
	e, _, found := m.choose(l)
	switch {
	case t.Kind == api.TyInt && (!found || m.one(2)):
		return m.number(deep), true
	case t.Kind == api.TyBool && (!found || !m.one(4)):
		return m.truth(deep), true
	case t.Void && (!found || m.one(4)):
		return api.Expr{Kind: api.ExVoid}, true
	}
	return e, found
}

func (m *maker) number(deep int) api.Expr {
	t := api.Type{Kind: api.TyInt}
	switch {
	case deep <= 0 || m.one(2):
		return api.Expr{Kind: api.ExInt, N: pick(m.chance, 0, 1, 7, m.Intn(100), api.MaxNum)}
	case m.one(4):
		return api.Expr{Kind: api.ExUn, Name: "-", Kids: []api.Expr{m.expr(t, deep-1)}}
	}
	return m.binary(pick(m.chance, "+", "-", "*", "//", "%"), t, t, deep)
}

func (m *maker) binary(name string, a, b api.Type, deep int) api.Expr {
	left := m.expr(a, deep-1)
	return api.Expr{Kind: api.ExBin, Name: name, Kids: []api.Expr{left, m.expr(b, deep-1)}}
}

func (m *maker) truth(deep int) api.Expr {
	number, truth := api.Type{Kind: api.TyInt}, api.Type{Kind: api.TyBool}
	if deep <= 0 {
		return api.Expr{Kind: api.ExBool, N: m.Intn(2)}
	}
	switch pick(m.chance, "less", "less", "same", "same", "join", "join", "not", "old", "if", "attached") {
	case "less":
		return m.binary(pick(m.chance, "<", "<=", ">", ">="), number, number, deep)
	case "same":
		if a, t, found := m.any(deep - 1); found && !m.one(3) {
			t.Void, t.Sep = true, t.Kind == api.TyClass
			return api.Expr{Kind: api.ExBin, Name: pick(m.chance, "=", "/="), Kids: []api.Expr{a, m.expr(t, deep-1)}}
		}
		t := pick(m.chance, number, truth)
		return m.binary(pick(m.chance, "=", "/="), t, t, deep)
	case "join":
		return m.binary(pick(m.chance, "and", "or", "implies"), truth, truth, deep)
	case "not":
		return api.Expr{Kind: api.ExUn, Name: "not", Kids: []api.Expr{m.expr(truth, deep-1)}}
	case "old":
		if m.part == "ensure" && !m.old {
			m.old = true
			e := api.Expr{Kind: api.ExOld, Kids: []api.Expr{m.expr(truth, deep-1)}}
			m.old = false
			return e
		}
	case "attached":
		if e, names := m.binder(); names != nil {
			return e
		}
	}
	e, names := m.condition(deep - 1)
	var right api.Expr
	m.apartly(names, func() { right = m.expr(truth, deep-1) })
	return api.Expr{Kind: api.ExBin, Name: "implies", Kids: []api.Expr{e, right}}
}

// isFounded tells whether a system is well-founded.
func isFounded(l []api.Class) bool {
	err, _ := kind.Check(l)
	_, other := flat.Flats(l)
	return err == api.OK && other == api.OK
}
