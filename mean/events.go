package mean

import (
	"slices"

	"cosigner/api"
)

// listener is what is known of a run of which only the events are told, one after another.
type listener struct {
	list []api.Class
	open []api.Event // the calls that have not been left yet
	made int
}

// areOfRun tells whether events can be those of a whole run.
func areOfRun(l []api.Class, events []api.Event) bool {
	if len(events) == 0 || events[0].Kind != api.EvMade {
		return false
	}
	w := &listener{list: l}
	return !slices.ContainsFunc(events, func(e api.Event) bool { return !w.takes(e) }) && len(w.open) == 0
}

// takes tells whether an event can come next.
func (w *listener) takes(e api.Event) bool {
	switch e.Kind {
	case api.EvCall:
		w.open = append(w.open, e)
		return e.N == 0 && w.isRoutine(e) && len(w.open) <= api.MaxFrames
	case api.EvBack:
		return w.isLeft(e) && (e.N == 0 || isException(e.N))
	case api.EvMade:
		w.made++
		return e.N == w.made-1 && e.Name == "" && w.isFull(e.Class)
	case api.EvPut:
		return isNumber(e.N) && e.Class == "" && e.Name == ""
	}
	return false
}

// isLeft tells whether an event leaves the last call.
func (w *listener) isLeft(e api.Event) bool {
	last := len(w.open) - 1
	if last < 0 {
		return false
	}
	call := w.open[last]
	w.open = w.open[:last]
	return call.Class == e.Class && call.Name == e.Name
}

// isRoutine tells whether an event names a routine with a body.
func (w *listener) isRoutine(e api.Event) bool {
	c := find(w.list, func(c *api.Class) bool { return c.Name == e.Class })
	return c != nil && find(c.Features, func(f *api.Feature) bool { return f.Name == e.Name && f.Kind == api.FeRoutine }) != nil
}

// isFull tells whether there can be objects of a class.
func (w *listener) isFull(name string) bool {
	return find(w.list, func(c *api.Class) bool { return c.Name == name && !c.Deferred }) != nil
}

func isException(n int) bool {
	return n >= api.FaPre && n <= api.FaFree || n >= api.FaOwn && n <= api.FaOwn+99
}
