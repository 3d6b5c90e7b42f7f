package mean

import (
	"slices"

	"cosigner/api"
)

// object is an object: its class, and the values of its attributes.
type object struct {
	class *class
	vals  []api.Val
}

// run is what is known of a run.
type run struct {
	*system
	off   map[int]bool // the exceptions whose assertions are not looked at
	limit int          // how many steps it may take

	steps         int
	frames, depth int // how many calls are under way, and at most were
	objects       []object
	out           []int
	events        []api.Event
	raised        []api.Blame
	begun         map[api.Seed]int
	end           api.Blame // the exception with which it ends, if it does with one
}

// exception is an exception that leads out of what is carried out, as it happened.
type exception struct{ api.Blame }

// again leads out of a rescue clause, back to the body.
type again struct{}

// runOf carries out a run.
func runOf(l []api.Class, class, make string, steps int, off ...int) (*run, api.Errno) {
	s, err := systemOf(l)
	if err != api.OK {
		return nil, err
	}
	c, found := s.classes[class]
	if !found {
		return nil, api.ErrNone
	}
	m, found := c.members[make]
	switch {
	case !found:
		return nil, api.ErrName
	case steps < 0 || steps > api.MaxSteps || slices.ContainsFunc(off, isOfNone):
		return nil, api.ErrArg
	case c.Deferred || m.Kind != api.FeRoutine || len(m.Args) > 0 || m.Type.Kind != api.TyNone:
		return nil, api.ErrType
	}
	r := &run{system: s, off: map[int]bool{}, limit: steps, begun: map[api.Seed]int{}}
	for _, fault := range off {
		r.off[fault] = true
	}
	r.end, err = untilWrong(func() {
		begin := &frame{run: r}
		begin.create(c, begin.version(named{class, class, make}), nil)
	})
	return r, err
}

// isOfNone tells whether an exception is that of no assertions.
func isOfNone(fault int) bool {
	return fault < api.FaPre || fault > api.FaVariant
}

// untilWrong does something up to its end, and returns the exception with which it ends, if it does with one; or up to where it cannot go on, and returns why.
func untilWrong(do func()) (end api.Blame, err api.Errno) {
	defer func() {
		if x := recover(); x != nil {
			err = x.(api.Errno)
		}
	}()
	if x, is := attempt(do).(exception); is {
		end = x.Blame
	}
	return end, api.OK
}

// attempt does something, and returns what led out of it: an exception, again, or nil.
func attempt(do func()) (led any) {
	defer func() {
		led = recover()
		switch led.(type) {
		case nil, exception, again:
		default:
			panic(led) // it is none of the language
		}
	}()
	do()
	return nil
}

// need ends a run where something goes wrong.
func need(is bool) {
	if !is {
		panic(api.ErrType)
	}
}

func (r *run) step() {
	r.steps++
	if r.steps > r.limit {
		panic(api.ErrSteps)
	}
}

// note notes events, but no more of them than it takes to know that they are too many.
func (r *run) note(events ...api.Event) {
	if len(r.events) <= mostTold {
		r.events = append(r.events, events...)
	}
}

// happens lets an exception happen for which someone is to blame.
func (r *run) happens(fault int, guilt api.Blame) {
	guilt.Fault = fault
	if len(r.raised) <= mostTold {
		r.raised = append(r.raised, guilt)
	}
	panic(exception{guilt})
}

// enter begins a call; if there are too many, someone is to blame for it.
func (r *run) enter(guilt api.Blame) {
	if r.frames == api.MaxFrames {
		r.happens(api.FaDeep, guilt)
	}
	r.frames++
	r.depth = max(r.depth, r.frames)
}

func (r *run) leave() {
	r.frames--
}

// field returns where the value of an attribute of an object stands.
func (r *run) field(at int, name string) *api.Val {
	o := r.objects[at]
	return &o.vals[o.class.fields[name]]
}

// made makes an object, and returns its number.
func (r *run) made(c *class) int {
	r.objects = append(r.objects, object{c, slices.Clone(c.first)})
	at := len(r.objects) - 1
	r.note(api.Event{Kind: api.EvMade, Class: c.Name, N: at})
	return at
}

// graph returns the first object, and all that it reaches, in the order in which they are met.
func (r *run) graph() api.Graph {
	g := api.Graph{Roots: []api.Val{{Kind: api.VaRef}}}
	met := []int{0}
	places := map[int]int{0: 0}
	for i := 0; i < len(met); i++ {
		o := r.objects[met[i]]
		vals := each(o.vals, func(v api.Val) api.Val {
			if v.Kind == api.VaRef {
				v.N = remembered(places, v.N, func() int {
					met = append(met, v.N)
					return len(met) - 1
				})
			}
			return v
		})
		g.Nodes = append(g.Nodes, api.Node{Class: o.class.Name, Vals: vals})
	}
	return g
}
