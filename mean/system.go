package mean

import (
	"slices"

	"cosigner/api"
	"cosigner/flat"
	"cosigner/heir"
)

// class is a class as it is needed for a run.
type class struct {
	api.Class
	flat    api.Flat
	members map[string]*api.Member
	fields  map[string]int // where the values of its attributes stand in an object
	first   []api.Val      // what these are at first
	self    api.Type       // that of Current
}

// system is classes that have flat forms, and what has been found out of them so far.
type system struct {
	list     []api.Class
	classes  map[string]*class
	features map[api.Seed]*api.Feature
	versions map[named]*api.Member
	spoken   map[spokenOf]*api.Member
	olds     map[*api.Member][]oldIn
}

// named is a name in the words of a class, at an object of a descendant.
type named struct{ descendant, class, name string }

// spokenOf is a member that is called, of which the clauses of a class speak.
type spokenOf struct {
	class  string
	called *api.Member
}

func systemOf(l []api.Class) (*system, api.Errno) {
	flats, err := flat.Flats(l)
	if err != api.OK {
		return nil, err
	}
	s := &system{
		list:     l,
		classes:  map[string]*class{},
		features: map[api.Seed]*api.Feature{},
		versions: map[named]*api.Member{},
		spoken:   map[spokenOf]*api.Member{},
		olds:     map[*api.Member][]oldIn{},
	}
	for _, f := range flats {
		s.classes[f.Name] = &class{flat: f, members: map[string]*api.Member{}, fields: map[string]int{}}
	}
	for _, c := range l {
		s.classes[c.Name].fill(c)
		for i, f := range c.Features {
			s.features[api.Seed{Class: c.Name, Name: f.Name}] = &c.Features[i]
		}
	}
	return s, api.OK
}

// fill notes what follows from a class and its flat form.
func (c *class) fill(declared api.Class) {
	c.Class = declared
	for i := range c.flat.Members {
		m := &c.flat.Members[i]
		c.members[m.Name] = m
		if m.Kind == api.FeAttr {
			c.fields[m.Name] = len(c.first)
			c.first = append(c.first, begins(m.Type))
		}
	}
	formals := each(c.Formals, func(f api.Formal) api.Type { return api.Type{Kind: api.TyFormal, Name: f.Name} })
	c.self = api.Type{Kind: api.TyClass, Name: c.Name, Args: formals}
}

// begins returns the value with which what has a type begins.
func begins(t api.Type) api.Val {
	switch t.Kind {
	case api.TyInt:
		return number(0)
	case api.TyBool:
		return truth(false)
	}
	return api.Val{Kind: api.VaVoid}
}

func number(n int) api.Val {
	return api.Val{Kind: api.VaInt, N: n}
}

func truth(is bool) api.Val {
	if is {
		return api.Val{Kind: api.VaBool, N: 1}
	}
	return api.Val{Kind: api.VaBool}
}

func isObject(v api.Val) bool {
	return v.Kind == api.VaVoid || v.Kind == api.VaRef
}

// version returns the member of a descendant that a name means in the words of a class; nil if there is no such name.
func (s *system) version(k named) *api.Member {
	return remembered(s.versions, k, func() *api.Member {
		c, isClass := s.classes[k.class]
		if !isClass || c.members[k.name] == nil {
			return nil
		}
		d := s.classes[k.descendant]
		if is, _ := heir.Is(s.list, k.descendant, k.class); !is {
			return nil
		}
		seeds := c.members[k.name].Seeds
		alike := keep(d.flat.Members, func(m api.Member) bool { return hasAll(m.Seeds, seeds) })
		if len(alike) == 1 { // the whole system need not be put together again
			return d.members[alike[0].Name]
		}
		name, _ := flat.Version(s.list, k.descendant, k.class, k.name)
		return d.members[name]
	})
}

// speaksOf returns the member of a class of which its clauses speak when a member is called to which they have come; nil if there is none.
func (s *system) speaksOf(class string, called *api.Member) *api.Member {
	return remembered(s.spoken, spokenOf{class, called}, func() *api.Member {
		return find(s.classes[class].flat.Members, func(m *api.Member) bool {
			return len(m.Seeds) > 0 && hasAll(called.Seeds, m.Seeds) && len(m.Args) == len(called.Args)
		})
	})
}

// hasAll tells whether all elements of some are in a list.
func hasAll[T comparable](l, some []T) bool {
	return !slices.ContainsFunc(some, func(x T) bool { return !slices.Contains(l, x) })
}
