package flat

import (
	"cmp"
	"maps"
	"slices"

	"cosigner/api"
	"cosigner/heir"
)

// Names returns the names under which a class has a seed.
func Names(l []api.Class, class string, s api.Seed) ([]string, api.Errno) {
	f, err := formWith(l, class, s)
	if err != api.OK {
		return nil, err
	}
	return fresh(f.seeds[s]), api.OK
}

// Selected returns the one of these names that is selected.
func Selected(l []api.Class, class string, s api.Seed) (string, api.Errno) {
	f, err := formWith(l, class, s)
	if err != api.OK {
		return "", err
	}
	name, _ := f.selected(s)
	return name, api.OK
}

// Version returns the name in a descendant of a feature of a class.
func Version(l []api.Class, descendant, class, name string) (string, api.Errno) {
	forms, err := enter(l, descendant, class)
	if err != api.OK {
		return "", err
	}
	m, found := forms[class].members[name]
	if !found {
		return "", api.ErrName
	}
	if is, _ := heir.Is(l, descendant, class); !is {
		return "", api.ErrNone
	}
	f := forms[descendant]
	names := keep(f.names, func(n string) bool { return containsAll(f.members[n].Seeds, m.Seeds) })
	if len(names) == 1 {
		return names[0], api.OK
	}
	if chosen, _ := f.selected(m.Seeds[0]); slices.Contains(names, chosen) {
		return chosen, api.OK
	}
	return "", api.ErrNone
}

// formWith returns the form of a class that has a seed.
func formWith(l []api.Class, class string, s api.Seed) (*form, api.Errno) {
	forms, err := enter(l, class)
	if err != api.OK {
		return nil, err
	}
	f := forms[class]
	if len(f.seeds[s]) == 0 {
		return nil, api.ErrNone
	}
	return f, api.OK
}

// sortedSeeds returns all seeds that a class has, in increasing order.
func (f *form) sortedSeeds() []api.Seed {
	return slices.SortedFunc(maps.Keys(f.seeds), compareSeeds)
}

// inheriting returns what a class inherits with a seed under a name.
func (f *form) inheriting(s api.Seed, name string) []coming {
	return keep(f.comes[name], func(x coming) bool { return slices.Contains(x.Seeds, s) })
}

// selected returns the name under which a seed is selected that a class has, if there is one.
func (f *form) selected(s api.Seed) (string, bool) {
	names := f.seeds[s]
	if len(names) == 1 {
		return names[0], true
	}
	chosen := keep(names, func(name string) bool { return slices.ContainsFunc(f.inheriting(s, name), isChosen) })
	switch len(chosen) {
	case 0:
		return f.selectedAbove(s)
	case 1:
		return chosen[0], true
	}
	return "", false
}

// selectedAbove returns which name the selected feature of a parent has here, if all features with a seed come from this parent alone.
func (f *form) selectedAbove(s api.Seed) (string, bool) {
	come := slices.Concat(each(f.seeds[s], func(name string) []coming { return f.inheriting(s, name) })...)
	parent := come[0].from.Parent
	if slices.ContainsFunc(come, func(x coming) bool { return x.from.Parent != parent }) {
		return "", false
	}
	there, _ := f.above[parent].selected(s)
	i := slices.IndexFunc(come, func(x coming) bool { return x.from.Name == there })
	return come[i].Name, true
}

// union returns the seeds of lists, in increasing order, each once.
func union(lists [][]api.Seed) []api.Seed {
	all := slices.Concat(lists...)
	slices.SortFunc(all, compareSeeds)
	return slices.Compact(all)
}

func compareSeeds(a, b api.Seed) int {
	return cmp.Or(cmp.Compare(a.Class, b.Class), cmp.Compare(a.Name, b.Name))
}
