package mean

import "cosigner/api"

// called carries out a call, or looks at a variable; a value may be wanted of it.
func (f *frame) called(e *api.Expr, isWanted bool) (api.Val, declared) {
	if e.N == 1 {
		target, t := f.reckon(&e.Kids[0])
		args := f.values(e.Kids[1:])
		return f.callAt(target, t, e.Name, args, isWanted)
	}
	if v, found := f.vars[e.Name]; found {
		need(len(e.Kids) == 0)
		return v.value, v.typed
	}
	args := f.values(e.Kids)
	return f.callHere(e.Name, args, isWanted)
}

// callHere carries out a call without a target.
func (f *frame) callHere(name string, args []api.Val, isWanted bool) (api.Val, declared) {
	m := f.name(name)
	needFit(m, args, isWanted)
	return f.call(f.at, m, args), declared{is: &f.words.members[name].Type}
}

// callAt carries out a call at a target with a declared type.
func (f *frame) callAt(target api.Val, t declared, name string, args []api.Val, isWanted bool) (api.Val, declared) {
	need(isObject(target))
	if target.Kind == api.VaVoid {
		f.raise(api.FaVoid)
	}
	c := f.targetClass(f.words, t)
	need(c != nil)
	m := f.version(named{f.objects[target.N].class.Name, c.Name, name})
	need(m != nil)
	needFit(m, args, isWanted)
	behind := f.client()
	if m.Kind != api.FeAttr {
		behind = blamed(api.SdSupplier, m.Impl)
	}
	f.invariant(target.N, f.client())
	v := f.call(target.N, m, args)
	f.invariant(target.N, behind)
	return v, c.typeAt(t, name)
}

// needFit ends a run if a member cannot be called so. (It is not deferred, as no class is of which there are objects.)
func needFit(m *api.Member, args []api.Val, isWanted bool) {
	need(len(args) == len(m.Args))
	need(!isWanted || m.Type.Kind != api.TyNone)
}

// call calls a member of an object.
func (f *frame) call(at int, m *api.Member, args []api.Val) api.Val {
	if m.Kind == api.FeAttr {
		return *f.field(at, m.Name)
	}
	f.enter(f.client())
	call := f.callOf(at, m, args)
	f.note(api.Event{Kind: api.EvCall, Class: m.Impl.Class, Name: m.Impl.Name})
	led := attempt(call.whole)
	f.leave()
	end, isRaised := led.(exception)
	f.note(api.Event{Kind: api.EvBack, Class: m.Impl.Class, Name: m.Impl.Name, N: end.Fault})
	if isRaised {
		panic(end)
	}
	return call.value()
}

// create makes an object of a class, and calls a creation procedure of it.
func (f *frame) create(c *class, m *api.Member, args []api.Val) api.Val {
	need(m != nil)
	if len(f.objects) == api.MaxMade {
		f.raise(api.FaFull)
	}
	at := f.made(c)
	f.call(at, m, args)
	f.invariant(at, blamed(api.SdSupplier, m.Impl))
	return api.Val{Kind: api.VaRef, N: at}
}
