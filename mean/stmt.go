package mean

import "cosigner/api"

// deedsOf returns what the kinds of statements do in a frame.
func (f *frame) deedsOf() map[int]func(*api.Stmt) {
	return map[int]func(*api.Stmt){
		api.StAssign: f.assign,
		api.StCall:   f.callAlone,
		api.StMake:   f.make,
		api.StIf:     f.branch,
		api.StLoop:   f.loop,
		api.StCheck:  f.check,
		api.StSep:    f.separate,
		api.StRetry:  f.retry,
		api.StRaise:  f.raiseOwn,
		api.StPut:    f.put,
	}
}

func (f *frame) stmts(l []api.Stmt) {
	if f.deeds == nil && len(l) > 0 {
		f.deeds = f.deedsOf()
	}
	for i := range l {
		f.step()
		need(hasStmtForm(&l[i]))
		f.deeds[l[i].Kind](&l[i])
	}
}

func (f *frame) assign(s *api.Stmt) {
	v := f.value(&s.Exprs[0])
	to, _ := f.target(s.Name)
	*to = v
}

// callAlone carries out a call of which no value is wanted.
func (f *frame) callAlone(s *api.Stmt) {
	f.step()
	need(hasExprForm(&s.Exprs[0]))
	f.called(&s.Exprs[0], false)
}

func (f *frame) make(s *api.Stmt) {
	e := &s.Exprs[0]
	to, t := f.target(s.Name)
	if t.Sep {
		panic(api.ErrState)
	}
	c, found := f.classes[t.Name]
	need(t.Kind == api.TyClass && found && !c.Deferred)
	m := f.version(named{c.Name, c.Name, e.Name})
	need(m != nil && m.Kind == api.FeRoutine && len(m.Args) == len(e.Kids))
	args := f.values(e.Kids)
	v := f.create(c, m, args)
	*to = v
}

func (f *frame) branch(s *api.Stmt) {
	if f.truth(&s.Exprs[0]) {
		f.stmts(s.Body)
	} else {
		f.stmts(s.Else)
	}
}

// loop carries out a loop. The assertions ahead of its first round are those behind each one, but that the variant has not been anything yet.
func (f *frame) loop(s *api.Stmt) {
	f.stmts(s.Init)
	last := api.MaxNum + 1
rounds:
	for {
		f.tags(s, api.FaLoop)
		if len(s.Exprs) == 2 && !f.off[api.FaVariant] {
			n := f.number(&s.Exprs[1])
			if n < 0 || n >= last {
				f.raise(api.FaVariant)
			}
			last = n
		}
		if f.truth(&s.Exprs[0]) {
			break rounds
		}
		f.stmts(s.Body)
	}
}

func (f *frame) check(s *api.Stmt) {
	f.tags(s, api.FaCheck)
}

// tags looks at the clauses of a statement.
func (f *frame) tags(s *api.Stmt, fault int) {
	if f.off[fault] {
		return
	}
	for i := range s.Tags {
		if !f.truth(&s.Tags[i].Expr) {
			f.raise(fault)
		}
	}
}

func (f *frame) separate(_ *api.Stmt) {
	panic(api.ErrState)
}

func (f *frame) retry(_ *api.Stmt) {
	need(f.isRescue)
	panic(again{})
}

func (f *frame) raiseOwn(s *api.Stmt) {
	f.raise(api.FaOwn + s.N)
}

func (f *frame) put(s *api.Stmt) {
	v := f.value(&s.Exprs[0])
	need(!isObject(v))
	f.out = append(f.out, v.N)
	f.note(api.Event{Kind: api.EvPut, N: v.N})
}
