package flat

import (
	"iter"
	"maps"
	"slices"

	"cosigner/api"
	"cosigner/heir"
)

// form is a class that has been put together.
type form struct {
	class   api.Class
	above   map[string]*form       // those of its parents
	own     map[string]api.Feature // what it declares
	comes   map[string][]coming    // what it inherits, by the names here, in the order of parents
	members map[string]api.Member
	names   []string              // those of its members, in their order
	seeds   map[api.Seed][]string // the names under which it has each seed, in their order
	first   api.Conflict          // if it clashes
	clashes bool
	large   bool // it is too large
}

// together puts classes together, each behind its ancestors, up to the first one that is wrong (it has a conflict, or is too large), if there is one.
func together(l []api.Class) (forms map[string]*form, wrong *form) {
	forms = map[string]*form{}
	for f := range formsOf(l) {
		if f.isWrong() {
			return nil, f
		}
		forms[f.class.Name] = f
	}
	return forms, nil
}

// formsOf yields the forms of classes, each behind its ancestors: of those classes alone no proper ancestor of which is wrong, as what others inherit is not known.
func formsOf(l []api.Class) iter.Seq[*form] {
	return func(yield func(*form) bool) {
		classes := byName(l)
		right := map[string]*form{}
		isMissing := func(p api.Parent) bool { return !has(right, p.Name) }
		order, _ := heir.Order(l)
		for _, name := range order {
			c := classes[name]
			if slices.ContainsFunc(c.Parents, isMissing) {
				continue
			}
			f := formOf(c, right)
			if !yield(f) {
				return
			}
			if !f.isWrong() {
				right[name] = f
			}
		}
	}
}

// formOf puts a class together; the forms of its parents are among those that are known.
func formOf(c api.Class, known map[string]*form) *form {
	f := &form{class: c, above: map[string]*form{}, own: map[string]api.Feature{}, comes: map[string][]coming{}, members: map[string]api.Member{}, seeds: map[api.Seed][]string{}}
	for _, p := range c.Parents {
		f.above[p.Name] = known[p.Name]
	}
	for x := range f.inherited() {
		f.comes[x.Name] = append(f.comes[x.Name], x)
	}
	for name, come := range f.comes {
		f.members[name] = become(come)
	}
	for _, declared := range c.Features {
		f.own[declared.Name] = declared
		f.members[declared.Name] = redeclared(declared, c.Name, f.comes[declared.Name])
	}
	f.names = slices.Sorted(maps.Keys(f.members))
	for _, m := range f.list() {
		for _, s := range m.Seeds {
			f.seeds[s] = append(f.seeds[s], m.Name)
		}
	}
	f.first, f.clashes = f.firstConflict()
	f.large = len(f.members) > api.MaxMembers || slices.ContainsFunc(f.list(), hasLongType)
	return f
}

// isWrong tells whether a class cannot be put together.
func (f *form) isWrong() bool {
	return f.clashes || f.large
}

// list returns the members in their order.
func (f *form) list() []api.Member {
	return each(f.names, func(name string) api.Member { return f.members[name] })
}

// become returns the member that inherited features of one name become.
func become(come []coming) api.Member {
	at := max(0, slices.IndexFunc(come, isEffective)) // if all are deferred, the first one stays
	m := come[at].Member
	m.Seeds = union(each(come, seedsOf))
	m.Pre = joined(each(come, preOf)...)
	m.Post = joined(each(come, postOf)...)
	return m
}

// redeclared returns the member that a declaration makes of the inherited features of its name, if there are any.
func redeclared(f api.Feature, class string, come []coming) api.Member {
	self := api.Seed{Class: class, Name: f.Name}
	m := api.Member{Name: f.Name, Kind: f.Kind, Impl: self, Args: f.Args, Type: f.Type, Clients: f.Clients}
	require := []api.Group{{Class: class, Clauses: f.Require}}
	ensure := keep([]api.Group{{Class: class, Clauses: f.Ensure}}, says)
	if len(come) == 0 {
		m.Seeds, m.Pre, m.Post = []api.Seed{self}, require, ensure
		return m
	}
	m.Seeds = union(each(come, seedsOf))
	m.Pre = joined(append(each(come, preOf), keep(require, says))...)
	m.Post = joined(append(each(come, postOf), ensure)...)
	return m
}

// joined returns the groups of lists, each once. It begins with the first list as it lies in memory, cut to its length so that nothing is written behind it.
func joined(lists ...[]api.Group) []api.Group {
	out := lists[0][:len(lists[0]):len(lists[0])]
	for _, l := range lists[1:] {
		more := keep(l, func(g api.Group) bool { return !holds(out, g) })
		out = append(out, more...)
	}
	return out
}

// holds tells whether a group is one of a list.
func holds(l []api.Group, g api.Group) bool {
	return slices.ContainsFunc(l, func(x api.Group) bool { return sameGroup(x, g) })
}

// says tells whether a group has clauses.
func says(g api.Group) bool {
	return len(g.Clauses) > 0
}
