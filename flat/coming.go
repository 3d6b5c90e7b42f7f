package flat

import (
	"iter"
	"slices"

	"cosigner/api"
)

// coming is a feature as a class inherits it from a parent: under its name here, with its kind and its types here.
type coming struct {
	api.Member
	from              api.Origin
	was               int  // its kind there
	redefined, chosen bool // whether its name here stands in Redefine, and in Select
}

// inherited yields what a class inherits, in the order of its parents.
func (f *form) inherited() iter.Seq[coming] {
	return func(yield func(coming) bool) {
		for _, p := range f.class.Parents {
			parent := f.above[p.Name]
			for _, m := range parent.list() {
				if !yield(adapted(m, p, parent.class.Formals)) {
					return
				}
			}
		}
	}
}

// adapted returns a member of a parent, which has these formals, as it comes from there.
func adapted(m api.Member, p api.Parent, formals []api.Formal) coming {
	x := coming{Member: m, from: api.Origin{Parent: p.Name, Name: m.Name}, was: m.Kind}
	i := slices.Index(each(p.Rename, oldName), m.Name)
	if i >= 0 {
		x.Name = p.Rename[i].To
	}
	if slices.Contains(p.Undefine, x.Name) {
		x.Kind = api.FeDeferred
	}
	x.redefined = slices.Contains(p.Redefine, x.Name)
	x.chosen = slices.Contains(p.Select, x.Name)
	x.Args = each(m.Args, func(v api.Var) api.Var {
		v.Type = replaced(v.Type, formals, p.Args)
		return v
	})
	x.Type = replaced(m.Type, formals, p.Args)
	return x
}

// isEffective tells whether a feature is not deferred.
func isEffective(x coming) bool {
	return x.Kind != api.FeDeferred
}

// isSameFeature tells whether two inherited features are the same.
func isSameFeature(a, b coming) bool {
	return a.Impl == b.Impl && slices.Equal(a.Seeds, b.Seeds) && sameTypes(a.Member, b.Member)
}

// isChosen tells whether a feature is selected where it comes from its parent.
func isChosen(x coming) bool {
	return x.chosen
}

func seedsOf(x coming) []api.Seed  { return x.Seeds }
func preOf(x coming) []api.Group   { return x.Pre }
func postOf(x coming) []api.Group  { return x.Post }
func originOf(x coming) api.Origin { return x.from }
