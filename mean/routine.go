package mean

import "cosigner/api"

// routine is a call of a routine that is under way.
type routine struct {
	*frame  // that of its body
	feature *api.Feature
	member  *api.Member
	args    []api.Val
	caller  api.Blame // who is to blame for what the one who called had to see to
}

// callOf returns a call of a routine, by what is carried out in a frame.
func (f *frame) callOf(at int, m *api.Member, args []api.Val) *routine {
	feature := f.features[m.Impl]
	body := &frame{run: f.run, at: at, words: f.classes[m.Impl.Class], by: m.Impl, guilt: blamed(api.SdOwn, m.Impl)}
	for i := range args {
		body.bind(feature.Args[i].Name, variable{value: args[i], typed: declared{is: &feature.Args[i].Type}})
	}
	for i, v := range feature.Locals {
		body.bind(v.Name, variable{begins(v.Type), declared{is: &feature.Locals[i].Type}, true})
	}
	if feature.Type.Kind != api.TyNone {
		body.result = &variable{value: begins(feature.Type), typed: declared{is: &feature.Type}}
	}
	return &routine{body, feature, m, args, f.client()}
}

// whole carries out a call from its preconditions on.
func (r *routine) whole() {
	r.require()
	old := r.remember()
	for {
		led := attempt(func() {
			r.begun[r.member.Impl]++
			r.stmts(r.feature.Body)
			r.ensure(old)
		})
		if led == nil {
			return
		}
		if !r.feature.Rescues || !r.rescue() {
			panic(led)
		}
	}
}

// value returns what a call returns.
func (r *routine) value() api.Val {
	if r.result == nil {
		return api.Val{}
	}
	return r.result.value
}

// rescue carries out the rescue clause, and tells whether it leads back to the body.
func (r *routine) rescue() bool {
	r.isRescue = true
	led := attempt(func() { r.stmts(r.feature.Rescue) })
	r.isRescue = false
	if end, is := led.(exception); is {
		panic(end)
	}
	return led != nil
}
