package mean_test

import (
	"slices"

	"cosigner/api"
	"cosigner/flat"
)

// The measure carries out runs a second time, by the chapter's sections and LANG alone: versions are those of flat.Version, declared types are put together by flat.Subst, and what leads out of something is handed back from function to function.

// How something ends.
const (
	goesOn = iota
	raised
	retried
	wrong   // ErrType
	farAway // ErrState
	tooLong // ErrSteps
)

type ending struct {
	how   int
	blame api.Blame
}

type thing struct {
	class string
	vals  map[string]api.Val
}

type bound struct {
	name  string
	val   api.Val
	t     api.Type
	local bool
}

type measure struct {
	l       []api.Class
	flats   []api.Flat
	off     []int
	limit   int
	steps   int
	under   int
	deepest int
	things  []thing
	out     []int
	events  []api.Event
	raised  []api.Blame
	begun   []api.Seed
	known   map[[3]string]string // versions that have been asked for; empty: none
}

// spot is where something is carried out.
type spot struct {
	at       int
	words    string
	by       api.Seed
	side     int
	who      api.Seed
	vars     []bound
	hasOwn   bool // it has a Result
	own      bound
	olds     map[*api.Expr]api.Val
	inRescue bool
}

func (m *measure) flatOf(name string) *api.Flat {
	i := slices.IndexFunc(m.flats, func(f api.Flat) bool { return f.Name == name })
	if i < 0 {
		return nil
	}
	return &m.flats[i]
}

func (m *measure) member(class, name string) *api.Member {
	f := m.flatOf(class)
	if f == nil {
		return nil
	}
	i := slices.IndexFunc(f.Members, func(x api.Member) bool { return x.Name == name })
	if i < 0 {
		return nil
	}
	return &f.Members[i]
}

func (m *measure) version(descendant, class, name string) *api.Member {
	key := [3]string{descendant, class, name}
	if _, is := m.known[key]; !is {
		m.known[key], _ = flat.Version(m.l, descendant, class, name)
	}
	return m.member(descendant, m.known[key])
}

func start(t api.Type) api.Val {
	switch t.Kind {
	case api.TyInt:
		return api.Val{Kind: api.VaInt}
	case api.TyBool:
		return api.Val{Kind: api.VaBool}
	}
	return api.Val{Kind: api.VaVoid}
}

// whole carries out a whole run, and returns how it ends.
func (m *measure) whole(class, make string) ending {
	_, end := m.birth(&spot{}, class, m.version(class, class, make), nil)
	return end
}

func (m *measure) fails(fault, side int, who api.Seed) ending {
	b := api.Blame{Fault: fault, Side: side, Class: who.Class, Name: who.Name}
	m.raised = append(m.raised, b)
	return ending{raised, b}
}

func (m *measure) isOff(fault int) bool { return slices.Contains(m.off, fault) }

func (m *measure) step() ending {
	m.steps++
	if m.steps > m.limit {
		return ending{how: tooLong}
	}
	return ending{}
}

func (m *measure) birth(s *spot, class string, x *api.Member, args []api.Val) (api.Val, ending) {
	if x == nil {
		return api.Val{}, ending{how: wrong}
	}
	if len(m.things) >= api.MaxMade {
		return api.Val{}, m.fails(api.FaFull, s.side, s.who)
	}
	at := len(m.things)
	m.things = append(m.things, thing{class, map[string]api.Val{}})
	for _, a := range m.flatOf(class).Members {
		if a.Kind == api.FeAttr {
			m.things[at].vals[a.Name] = start(a.Type)
		}
	}
	m.events = append(m.events, api.Event{Kind: api.EvMade, Class: class, N: at})
	if _, end := m.perform(s, at, x, args); end.how != goesOn {
		return api.Val{}, end
	}
	return api.Val{Kind: api.VaRef, N: at}, m.invariant(at, api.SdSupplier, x.Impl)
}

func (m *measure) invariant(at, side int, who api.Seed) ending {
	groups := m.flatOf(m.things[at].class).Invariant
	if len(groups) == 0 || m.isOff(api.FaInv) {
		return ending{}
	}
	if m.under >= api.MaxFrames {
		return m.fails(api.FaDeep, side, who)
	}
	m.under++
	m.deepest = max(m.deepest, m.under)
	defer func() { m.under-- }()
	for _, g := range groups {
		for i := range g.Clauses {
			s := &spot{at: at, words: g.Class, by: who, side: side, who: who}
			if is, end := m.truth(s, &g.Clauses[i].Expr); end.how != goesOn {
				return end
			} else if !is {
				return m.fails(api.FaInv, side, who)
			}
		}
	}
	return ending{}
}

// perform carries out a member.
func (m *measure) perform(s *spot, at int, x *api.Member, args []api.Val) (api.Val, ending) {
	if x.Kind == api.FeAttr {
		return m.things[at].vals[x.Name], ending{}
	}
	if m.under >= api.MaxFrames {
		return api.Val{}, m.fails(api.FaDeep, api.SdClient, s.by)
	}
	m.under++
	m.deepest = max(m.deepest, m.under)
	m.events = append(m.events, api.Event{Kind: api.EvCall, Class: x.Impl.Class, Name: x.Impl.Name})
	v, end := m.inside(s.by, at, x, args)
	m.under--
	if end.how == goesOn || end.how == raised {
		m.events = append(m.events, api.Event{Kind: api.EvBack, Class: x.Impl.Class, Name: x.Impl.Name, N: end.blame.Fault})
	}
	return v, end
}

func (m *measure) inside(caller api.Seed, at int, x *api.Member, args []api.Val) (api.Val, ending) {
	f, class, _ := flat.Declared(m.l, m.things[at].class, x.Name)
	if end := m.require(caller, at, x, args); end.how != goesOn {
		return api.Val{}, end
	}
	olds, end := m.olds(caller, at, x, args)
	if end.how != goesOn {
		return api.Val{}, end
	}
	s := &spot{at: at, words: class, by: x.Impl, side: api.SdOwn, who: x.Impl}
	for i, v := range f.Args {
		s.vars = append(s.vars, bound{v.Name, args[i], v.Type, false})
	}
	for _, v := range f.Locals {
		s.vars = append(s.vars, bound{v.Name, start(v.Type), v.Type, true})
	}
	s.hasOwn = f.Type.Kind != api.TyNone
	s.own = bound{val: start(f.Type), t: f.Type}
	for {
		m.begun = append(m.begun, x.Impl)
		end := m.stmts(s, f.Body)
		if end.how == goesOn {
			end = m.ensure(s, x, args, olds)
		}
		if end.how != raised || !f.Rescues {
			return s.own.val, end
		}
		s.inRescue = true
		last := m.stmts(s, f.Rescue)
		s.inRescue = false
		switch last.how {
		case retried:
			continue
		case goesOn:
			return api.Val{}, end
		}
		return api.Val{}, last
	}
}

// clauseSpot returns where a clause of a routine is carried out.
func (m *measure) clauseSpot(x *api.Member, words string, at int, args []api.Val, side int, who api.Seed) *spot {
	s := &spot{at: at, words: words, by: x.Impl, side: side, who: who}
	said := m.said(x, words)
	for i, v := range x.Args {
		b := bound{name: v.Name, val: args[i]}
		if said != nil {
			b.t = said.Args[i].Type
		}
		s.vars = append(s.vars, b)
	}
	return s
}

// said returns the first member of a class that has some seeds, all of them among those of a member, and as many arguments.
func (m *measure) said(x *api.Member, words string) *api.Member {
	for i, y := range m.flatOf(words).Members {
		missing := slices.ContainsFunc(y.Seeds, func(s api.Seed) bool { return !slices.Contains(x.Seeds, s) })
		if len(y.Seeds) > 0 && !missing && len(y.Args) == len(x.Args) {
			return &m.flatOf(words).Members[i]
		}
	}
	return nil
}

func (m *measure) require(caller api.Seed, at int, x *api.Member, args []api.Val) ending {
	if m.isOff(api.FaPre) {
		return ending{}
	}
	for _, g := range x.Pre {
		holds := true
		for i := 0; i < len(g.Clauses) && holds; i++ {
			s := m.clauseSpot(x, g.Class, at, args, api.SdClient, caller)
			is, end := m.truth(s, &g.Clauses[i].Expr)
			if end.how != goesOn {
				return end
			}
			holds = is
		}
		if holds {
			return ending{}
		}
	}
	return m.fails(api.FaPre, api.SdClient, caller)
}

func (m *measure) olds(caller api.Seed, at int, x *api.Member, args []api.Val) (map[*api.Expr]api.Val, ending) {
	vals := map[*api.Expr]api.Val{}
	if m.isOff(api.FaPost) {
		return vals, ending{}
	}
	for _, g := range x.Post {
		for i := range g.Clauses {
			s := m.clauseSpot(x, g.Class, at, args, api.SdClient, caller)
			todo := []*api.Expr{&g.Clauses[i].Expr}
			for len(todo) > 0 {
				e := todo[0]
				todo = todo[1:]
				if e.Kind != api.ExOld {
					var kids []*api.Expr
					for k := range e.Kids {
						kids = append(kids, &e.Kids[k])
					}
					todo = append(kids, todo...)
					continue
				}
				if len(e.Kids) != 1 {
					return nil, ending{how: wrong}
				}
				v, _, end := m.expr(s, &e.Kids[0])
				if end.how != goesOn {
					return nil, end
				}
				vals[e] = v
			}
		}
	}
	return vals, ending{}
}

func (m *measure) ensure(body *spot, x *api.Member, args []api.Val, olds map[*api.Expr]api.Val) ending {
	if m.isOff(api.FaPost) {
		return ending{}
	}
	for _, g := range x.Post {
		for i := range g.Clauses {
			s := m.clauseSpot(x, g.Class, body.at, args, api.SdSupplier, x.Impl)
			s.olds = olds
			s.hasOwn = body.hasOwn
			s.own.val = body.own.val
			if said := m.said(x, g.Class); said != nil {
				s.own.t = said.Type
			}
			if is, end := m.truth(s, &g.Clauses[i].Expr); end.how != goesOn {
				return end
			} else if !is {
				return m.fails(api.FaPost, api.SdSupplier, x.Impl)
			}
		}
	}
	return ending{}
}

func (m *measure) truth(s *spot, e *api.Expr) (bool, ending) {
	v, _, end := m.expr(s, e)
	if end.how == goesOn && v.Kind != api.VaBool {
		end.how = wrong
	}
	return v.N == 1, end
}

func (m *measure) number(s *spot, e *api.Expr) (int, ending) {
	v, _, end := m.expr(s, e)
	if end.how == goesOn && v.Kind != api.VaInt {
		end.how = wrong
	}
	return v.N, end
}

func kidsFit(e *api.Expr) bool {
	switch e.Kind {
	case api.ExInt:
		return len(e.Kids) == 0 && 0 <= e.N && e.N <= api.MaxNum
	case api.ExBool:
		return len(e.Kids) == 0 && (e.N == 0 || e.N == 1)
	case api.ExVoid, api.ExCurrent, api.ExResult:
		return len(e.Kids) == 0
	case api.ExCall:
		return e.N == 0 || e.N == 1 && len(e.Kids) >= 1
	case api.ExBin:
		return len(e.Kids) == 2
	case api.ExUn, api.ExOld, api.ExAttached:
		return len(e.Kids) == 1
	}
	return false
}

// expr reckons an expression, and returns its declared type.
func (m *measure) expr(s *spot, e *api.Expr) (api.Val, api.Type, ending) {
	none := api.Type{}
	if end := m.step(); end.how != goesOn {
		return api.Val{}, none, end
	}
	if !kidsFit(e) {
		return api.Val{}, none, ending{how: wrong}
	}
	truth := func(is bool, end ending) (api.Val, api.Type, ending) {
		if is {
			return api.Val{Kind: api.VaBool, N: 1}, none, end
		}
		return api.Val{Kind: api.VaBool}, none, end
	}
	switch e.Kind {
	case api.ExInt:
		return api.Val{Kind: api.VaInt, N: e.N}, none, ending{}
	case api.ExBool:
		return truth(e.N == 1, ending{})
	case api.ExVoid:
		return api.Val{Kind: api.VaVoid}, none, ending{}
	case api.ExCurrent:
		t := api.Type{Kind: api.TyClass, Name: s.words}
		for _, f := range classOf(m.l, s.words).Formals {
			t.Args = append(t.Args, api.Type{Kind: api.TyFormal, Name: f.Name})
		}
		return api.Val{Kind: api.VaRef, N: s.at}, t, ending{}
	case api.ExResult:
		if !s.hasOwn {
			return api.Val{}, none, ending{how: wrong}
		}
		return s.own.val, s.own.t, ending{}
	case api.ExCall:
		return m.call(s, e, true)
	case api.ExUn:
		if e.Name == "not" {
			is, end := m.truth(s, &e.Kids[0])
			return truth(!is, end)
		}
		if e.Name != "-" {
			return api.Val{}, none, ending{how: wrong}
		}
		n, end := m.number(s, &e.Kids[0])
		return api.Val{Kind: api.VaInt, N: -n}, none, end
	case api.ExOld:
		if s.olds == nil {
			return api.Val{}, none, ending{how: wrong}
		}
		return s.olds[e], none, ending{}
	case api.ExAttached:
		v, t, end := m.expr(s, &e.Kids[0])
		if end.how != goesOn {
			return api.Val{}, none, end
		}
		if v.Kind != api.VaVoid {
			s.vars = append(s.vars, bound{name: e.Name, val: v, t: t})
		}
		return truth(v.Kind != api.VaVoid, end)
	}
	return m.binary(s, e)
}

func (m *measure) binary(s *spot, e *api.Expr) (api.Val, api.Type, ending) {
	bad := func(end ending) (api.Val, api.Type, ending) { return api.Val{}, api.Type{}, end }
	is := func(x bool) (api.Val, api.Type, ending) {
		if x {
			return api.Val{Kind: api.VaBool, N: 1}, api.Type{}, ending{}
		}
		return api.Val{Kind: api.VaBool}, api.Type{}, ending{}
	}
	if e.Name == "and" || e.Name == "or" || e.Name == "implies" {
		a, end := m.truth(s, &e.Kids[0])
		switch {
		case end.how != goesOn:
			return bad(end)
		case e.Name == "and" && !a:
			return is(false)
		case e.Name == "or" && a, e.Name == "implies" && !a:
			return is(true)
		}
		b, end := m.truth(s, &e.Kids[1])
		if end.how != goesOn {
			return bad(end)
		}
		return is(b)
	}
	a, _, end := m.expr(s, &e.Kids[0])
	if end.how != goesOn {
		return bad(end)
	}
	isSame := e.Name == "=" || e.Name == "/="
	if !isSame && a.Kind != api.VaInt {
		return bad(ending{how: wrong})
	}
	b, _, end := m.expr(s, &e.Kids[1])
	if end.how != goesOn {
		return bad(end)
	}
	if isSame {
		group := map[int]int{api.VaInt: 1, api.VaBool: 2, api.VaVoid: 3, api.VaRef: 3}
		if group[a.Kind] != group[b.Kind] {
			return bad(ending{how: wrong})
		}
		return is((a.Kind == b.Kind && a.N == b.N) != (e.Name == "/="))
	}
	if b.Kind != api.VaInt {
		return bad(ending{how: wrong})
	}
	switch e.Name {
	case "<":
		return is(a.N < b.N)
	case "<=":
		return is(a.N <= b.N)
	case ">":
		return is(a.N > b.N)
	case ">=":
		return is(a.N >= b.N)
	}
	n, fault, known := reckoned(e.Name, a.N, b.N)
	switch {
	case !known:
		return bad(ending{how: wrong})
	case fault != 0:
		return bad(m.fails(fault, s.side, s.who))
	}
	return api.Val{Kind: api.VaInt, N: n}, api.Type{}, ending{}
}

func (m *measure) call(s *spot, e *api.Expr, wants bool) (api.Val, api.Type, ending) {
	bad := func(how int) (api.Val, api.Type, ending) { return api.Val{}, api.Type{}, ending{how: how} }
	if e.N == 0 {
		for _, b := range slices.Backward(s.vars) {
			if b.name == e.Name {
				if len(e.Kids) > 0 {
					return bad(wrong)
				}
				return b.val, b.t, ending{}
			}
		}
	}
	var vals []api.Val
	var target api.Type
	for i := range e.Kids {
		v, t, end := m.expr(s, &e.Kids[i])
		if end.how != goesOn {
			return api.Val{}, api.Type{}, end
		}
		vals = append(vals, v)
		if i == 0 {
			target = t
		}
	}
	if e.N == 0 {
		x := m.version(m.things[s.at].class, s.words, e.Name)
		if x == nil || x.Kind == api.FeDeferred || len(x.Args) != len(vals) || wants && x.Type.Kind == api.TyNone {
			return bad(wrong)
		}
		v, end := m.perform(s, s.at, x, vals)
		return v, m.member(s.words, e.Name).Type, end
	}
	switch vals[0].Kind {
	case api.VaInt, api.VaBool:
		return bad(wrong)
	case api.VaVoid:
		return api.Val{}, api.Type{}, m.fails(api.FaVoid, s.side, s.who)
	}
	class := m.classOf(s, target)
	said := m.member(class, e.Name)
	if said == nil {
		return bad(wrong)
	}
	at := vals[0].N
	x := m.version(m.things[at].class, class, e.Name)
	if x == nil || x.Kind == api.FeDeferred || len(x.Args) != len(vals)-1 || wants && x.Type.Kind == api.TyNone {
		return bad(wrong)
	}
	if end := m.invariant(at, api.SdClient, s.by); end.how != goesOn {
		return api.Val{}, api.Type{}, end
	}
	v, end := m.perform(s, at, x, vals[1:])
	if end.how != goesOn {
		return api.Val{}, api.Type{}, end
	}
	if x.Kind == api.FeAttr {
		end = m.invariant(at, api.SdClient, s.by)
	} else {
		end = m.invariant(at, api.SdSupplier, x.Impl)
	}
	t, err := flat.Subst(said.Type, classOf(m.l, class).Formals, target.Args)
	if err != api.OK {
		t = api.Type{}
	}
	return v, t, end
}

// classOf returns the name of a target's class; it is empty if there is none.
func (m *measure) classOf(s *spot, t api.Type) string {
	switch t.Kind {
	case api.TyClass:
		return t.Name
	case api.TyFormal:
		for _, f := range classOf(m.l, s.words).Formals {
			if f.Name == t.Name {
				return f.Bound
			}
		}
	}
	return ""
}

// place returns how something is assigned, and its declared type; nil if it cannot be.
func (m *measure) place(s *spot, name string) (func(api.Val), api.Type) {
	if name == "Result" {
		if !s.hasOwn {
			return nil, api.Type{}
		}
		return func(v api.Val) { s.own.val = v }, s.own.t
	}
	for i, b := range slices.Backward(s.vars) {
		if b.name == name {
			if !b.local {
				return nil, api.Type{}
			}
			return func(v api.Val) { s.vars[i].val = v }, b.t
		}
	}
	x := m.version(m.things[s.at].class, s.words, name)
	if x == nil || x.Kind != api.FeAttr {
		return nil, api.Type{}
	}
	return func(v api.Val) { m.things[s.at].vals[x.Name] = v }, m.member(s.words, name).Type
}

func (m *measure) stmts(s *spot, l []api.Stmt) ending {
	for i := range l {
		if end := m.step(); end.how != goesOn {
			return end
		}
		if end := m.stmt(s, &l[i]); end.how != goesOn {
			return end
		}
	}
	return ending{}
}

// fits tells whether a statement has so many expressions, and of its lists no others than those that are named.
func fits(x *api.Stmt, least, most int, lists string) bool {
	has := func(name byte, n int) bool { return n == 0 || slices.Contains([]byte(lists), name) }
	n := len(x.Exprs)
	return least <= n && n <= most && has('t', len(x.Tags)) && has('i', len(x.Init)) && has('b', len(x.Body)) && has('e', len(x.Else))
}

func (m *measure) stmt(s *spot, x *api.Stmt) ending {
	bad := ending{how: wrong}
	switch x.Kind {
	case api.StAssign:
		if !fits(x, 1, 1, "") {
			return bad
		}
		v, _, end := m.expr(s, &x.Exprs[0])
		if end.how != goesOn {
			return end
		}
		to, _ := m.place(s, x.Name)
		if to == nil {
			return bad
		}
		to(v)
	case api.StCall:
		if !fits(x, 1, 1, "") || x.Exprs[0].Kind != api.ExCall {
			return bad
		}
		if end := m.step(); end.how != goesOn {
			return end
		}
		if !kidsFit(&x.Exprs[0]) {
			return bad
		}
		_, _, end := m.call(s, &x.Exprs[0], false)
		return end
	case api.StMake:
		return m.make(s, x)
	case api.StIf:
		if !fits(x, 1, 1, "be") {
			return bad
		}
		is, end := m.truth(s, &x.Exprs[0])
		switch {
		case end.how != goesOn:
			return end
		case is:
			return m.stmts(s, x.Body)
		}
		return m.stmts(s, x.Else)
	case api.StLoop:
		return m.loop(s, x)
	case api.StCheck:
		if !fits(x, 0, 0, "t") {
			return bad
		}
		return m.tags(s, x, api.FaCheck)
	case api.StSep:
		return ending{how: farAway}
	case api.StRetry:
		if !fits(x, 0, 0, "") || !s.inRescue {
			return bad
		}
		return ending{how: retried}
	case api.StRaise:
		if !fits(x, 0, 0, "") || x.N < 0 || x.N > 99 {
			return bad
		}
		return m.fails(100+x.N, s.side, s.who)
	case api.StPut:
		if !fits(x, 1, 1, "") {
			return bad
		}
		v, _, end := m.expr(s, &x.Exprs[0])
		if end.how != goesOn {
			return end
		}
		if v.Kind != api.VaInt && v.Kind != api.VaBool {
			return bad
		}
		m.out = append(m.out, v.N)
		m.events = append(m.events, api.Event{Kind: api.EvPut, N: v.N})
	default:
		return bad
	}
	return ending{}
}

func (m *measure) make(s *spot, x *api.Stmt) ending {
	bad := ending{how: wrong}
	if !fits(x, 1, 1, "") || x.Exprs[0].Kind != api.ExCall || x.Exprs[0].N != 0 {
		return bad
	}
	to, t := m.place(s, x.Name)
	if to == nil {
		return bad
	}
	if t.Sep {
		return ending{how: farAway}
	}
	f := m.flatOf(t.Name)
	if t.Kind != api.TyClass || f == nil || f.Deferred {
		return bad
	}
	e := &x.Exprs[0]
	y := m.version(t.Name, t.Name, e.Name)
	if y == nil || y.Kind != api.FeRoutine || len(y.Args) != len(e.Kids) {
		return bad
	}
	var args []api.Val
	for i := range e.Kids {
		v, _, end := m.expr(s, &e.Kids[i])
		if end.how != goesOn {
			return end
		}
		args = append(args, v)
	}
	v, end := m.birth(s, t.Name, y, args)
	if end.how == goesOn {
		to(v)
	}
	return end
}

func (m *measure) tags(s *spot, x *api.Stmt, fault int) ending {
	for i := range x.Tags {
		if m.isOff(fault) {
			break
		}
		if is, end := m.truth(s, &x.Tags[i].Expr); end.how != goesOn {
			return end
		} else if !is {
			return m.fails(fault, s.side, s.who)
		}
	}
	return ending{}
}

func (m *measure) loop(s *spot, x *api.Stmt) ending {
	if !fits(x, 1, 2, "tib") {
		return ending{how: wrong}
	}
	was, isFirst := 0, true
	behind := func() ending {
		if end := m.tags(s, x, api.FaLoop); end.how != goesOn {
			return end
		}
		if len(x.Exprs) == 1 || m.isOff(api.FaVariant) {
			return ending{}
		}
		n, end := m.number(s, &x.Exprs[1])
		if end.how == goesOn && (n < 0 || !isFirst && n >= was) {
			end = m.fails(api.FaVariant, s.side, s.who)
		}
		was, isFirst = n, false
		return end
	}
	if end := m.stmts(s, x.Init); end.how != goesOn {
		return end
	}
	if end := behind(); end.how != goesOn {
		return end
	}
	for {
		if is, end := m.truth(s, &x.Exprs[0]); end.how != goesOn || is {
			return end
		}
		if end := m.stmts(s, x.Body); end.how != goesOn {
			return end
		}
		if end := behind(); end.how != goesOn {
			return end
		}
	}
}

// graph returns the first object, and all that it reaches, as a graph.
func (m *measure) graph() api.Graph {
	var order []int
	var visit func(int)
	waiting := []int{0}
	visit = func(at int) {
		if slices.Contains(order, at) {
			return
		}
		order = append(order, at)
		for _, x := range m.flatOf(m.things[at].class).Members {
			if v := m.things[at].vals[x.Name]; x.Kind == api.FeAttr && v.Kind == api.VaRef {
				waiting = append(waiting, v.N)
			}
		}
	}
	for len(waiting) > 0 {
		at := waiting[0]
		waiting = waiting[1:]
		visit(at)
	}
	g := api.Graph{Roots: []api.Val{{Kind: api.VaRef, N: 0}}}
	for _, at := range order {
		n := api.Node{Class: m.things[at].class}
		for _, x := range m.flatOf(n.Class).Members {
			if x.Kind != api.FeAttr {
				continue
			}
			v := m.things[at].vals[x.Name]
			if v.Kind == api.VaRef {
				v.N = slices.Index(order, v.N)
			}
			n.Vals = append(n.Vals, v)
		}
		g.Nodes = append(g.Nodes, n)
	}
	return g
}

// classOf returns a class of a system, or an empty one.
func classOf(l []api.Class, name string) api.Class {
	for _, c := range l {
		if c.Name == name {
			return c
		}
	}
	return api.Class{}
}
