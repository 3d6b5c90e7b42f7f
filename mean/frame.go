package mean

import "cosigner/api"

// variable is one of a routine or a clause. Result is one as well, with a place of its own.
type variable struct {
	value   api.Val
	typed   declared
	isLocal bool
}

// frame is where a body or a clause is carried out.
type frame struct {
	*run
	at       int       // the object
	words    *class    // the class in whose words it is (none of what is reckoned without a system)
	by       api.Seed  // the routine whose body or assertion it is
	guilt    api.Blame // who is to blame for exceptions in it
	vars     map[string]*variable
	result   *variable               // nil if there is none
	old      func(*api.Expr) api.Val // nil outside of postconditions
	deeds    map[int]func(*api.Stmt) // what the kinds of statements do
	isRescue bool                    // it is in the rescue clause
}

// client returns who is to blame if it is the routine that calls something here.
func (f *frame) client() api.Blame {
	return blamed(api.SdClient, f.by)
}

// blamed returns who is to blame if it is a routine on some side.
func blamed(side int, routine api.Seed) api.Blame {
	return api.Blame{Side: side, Class: routine.Class, Name: routine.Name}
}

// raise lets an exception happen.
func (f *frame) raise(fault int) {
	f.happens(fault, f.guilt)
}

// name returns the member that a name means that is no variable.
func (f *frame) name(name string) *api.Member {
	m := f.version(named{f.objects[f.at].class.Name, f.words.Name, name})
	need(m != nil)
	return m
}

// bind binds a name to a value.
func (f *frame) bind(name string, v variable) {
	if f.vars == nil {
		f.vars = map[string]*variable{}
	}
	f.vars[name] = &v
}

// target returns what may be assigned, or created, and its declared type.
func (f *frame) target(name string) (*api.Val, *api.Type) {
	if name == "Result" {
		need(f.result != nil)
		return &f.result.value, f.result.typed.is
	}
	if v, found := f.vars[name]; found {
		need(v.isLocal)
		return &v.value, v.typed.is
	}
	m := f.name(name)
	need(m.Kind == api.FeAttr)
	return f.field(f.at, m.Name), &f.words.members[name].Type
}
