package sure

import (
	"slices"

	"cosigner/api"
	"cosigner/flat"
	"cosigner/heir"
	"cosigner/kind"
)

// everything is the class to which all class types and formals conform; it is none of a system, and has no features.
const everything = "ANY"

// system is classes that are well-founded, and what has been found out of them so far.
type system struct {
	list    []api.Class
	classes map[string]api.Class
	flats   map[string]api.Flat
	members map[string]map[string]api.Member

	above    map[string][]string
	rights   map[question]api.Errno
	conforms map[question]bool
	sights   map[question]sight
	looks    map[api.Seed]finding
}

// enter returns a system, which must have some classes.
func enter(l []api.Class, asked ...string) (*system, api.Errno) {
	if err, _ := kind.Check(l); err != api.OK {
		return nil, err
	}
	flats, err := flat.Flats(l)
	if err != api.OK {
		return nil, err
	}
	s := systemOf(l, flats)
	for _, name := range asked {
		if !has(s.classes, name) {
			return nil, api.ErrNone
		}
	}
	return s, api.OK
}

func systemOf(l []api.Class, flats []api.Flat) *system {
	s := &system{
		list:     l,
		classes:  map[string]api.Class{},
		flats:    map[string]api.Flat{},
		members:  map[string]map[string]api.Member{},
		above:    map[string][]string{},
		rights:   map[question]api.Errno{},
		conforms: map[question]bool{},
		sights:   map[question]sight{},
		looks:    map[api.Seed]finding{},
	}
	for _, c := range l {
		s.classes[c.Name] = c
	}
	for _, f := range flats {
		s.flats[f.Name] = f
		s.members[f.Name] = map[string]api.Member{}
		for _, m := range f.Members {
			s.members[f.Name][m.Name] = m
		}
	}
	return s
}

// enterMember returns a system with some classes, and a member of the first one.
func enterMember(l []api.Class, class, feature string, others ...string) (*system, api.Member, api.Errno) {
	s, err := enter(l, append(others, class)...)
	if err != api.OK {
		return nil, api.Member{}, err
	}
	m, found := s.members[class][feature]
	if !found {
		return nil, api.Member{}, api.ErrNone
	}
	return s, m, api.OK
}

// enterFeature returns what is found when a feature is looked at that a class declares; it must have no fault.
func enterFeature(l []api.Class, class, feature string) (*checker, api.Errno) {
	s, err := enter(l, class)
	if err != api.OK {
		return nil, err
	}
	at := api.Seed{Class: class, Name: feature}
	if _, found := s.declaration(at); !found {
		return nil, api.ErrNone
	}
	seen := s.look(at)
	if seen.isWrong {
		return nil, seen.wrong.err
	}
	return seen.checker, api.OK
}

// enterNode returns a node of such a feature.
func enterNode(l []api.Class, class, feature string, at int) (node, *checker, api.Errno) {
	c, err := enterFeature(l, class, feature)
	switch {
	case err != api.OK:
		return node{}, nil, err
	case at < 0 || at >= len(c.nodes):
		return node{}, nil, api.ErrNone
	}
	return c.nodes[at], c, api.OK
}

// declaration returns the declaration of a feature in a class, and whether there is one.
func (s *system) declaration(at api.Seed) (api.Feature, bool) {
	features := s.classes[at.Class].Features
	i := slices.IndexFunc(features, func(f api.Feature) bool { return f.Name == at.Name })
	if i < 0 {
		return api.Feature{}, false
	}
	return features[i], true
}

// isClient tells whether a class is a client of a feature.
func (s *system) isClient(client string, m api.Member) bool {
	if slices.Contains(m.Clients, everything) {
		return true
	}
	above := remembered(s.above, client, func() []string {
		names, _ := heir.Above(s.list, client)
		return names
	})
	return slices.ContainsFunc(above, func(a string) bool { return slices.Contains(m.Clients, a) })
}

// version returns what a member of a class is in a descendant; it is empty if it is nothing there.
func (s *system) version(descendant, class string, m api.Member) string {
	var names []string
members:
	for _, x := range s.flats[descendant].Members {
		for _, seed := range m.Seeds {
			if !slices.Contains(x.Seeds, seed) {
				continue members
			}
		}
		names = append(names, x.Name)
	}
	if len(names) == 1 {
		return names[0]
	}
	// Of several ones one is selected, or none.
	name, _ := flat.Version(s.list, descendant, class, m.Name)
	return name
}
