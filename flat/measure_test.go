package flat_test

import (
	"cmp"
	"slices"
	"strings"

	"cosigner/api"
	"cosigner/heir"
)

// measure is the chapter's section Terms, written down once more, as a measure for the package: slowly, by sets and by what is said of single conflicts, where the package goes by tables.
type measure struct {
	l     []api.Class
	known map[string][]api.Member
	heirs map[string][]heirloom
}

func measureOf(l []api.Class) *measure {
	return &measure{l, map[string][]api.Member{}, map[string][]heirloom{}}
}

// heirloom is what a class inherits: its parent (and the parent's place), its name there and here, and the rest as it is here.
type heirloom struct {
	at         int
	parent     api.Parent
	there      api.Member
	name       string
	isDeferred bool
	args       []api.Var
	typed      api.Type
}

func (x heirloom) origin() api.Origin {
	return api.Origin{Parent: x.parent.Name, Name: x.there.Name}
}

// signature tells the arguments and the type of a feature as a text.
func signature(args []api.Var, result api.Type) string {
	var out strings.Builder
	for _, v := range args {
		out.WriteString(v.Name + ":" + typeText(v.Type) + ";")
	}
	return out.String() + typeText(result)
}

func (x heirloom) signature() string {
	return signature(x.args, x.typed)
}

func (m *measure) class(name string) (api.Class, bool) {
	i := slices.IndexFunc(m.l, func(c api.Class) bool { return c.Name == name })
	if i < 0 {
		return api.Class{}, false
	}
	return m.l[i], true
}

func (m *measure) inherited(c api.Class) []heirloom {
	if l, is := m.heirs[c.Name]; is {
		return l
	}
	var out []heirloom
	for at, p := range c.Parents {
		above, _ := m.class(p.Name)
		actual := map[string]api.Type{}
		for i, f := range above.Formals {
			actual[f.Name] = p.Args[i]
		}
		for _, there := range m.members(p.Name) {
			x := heirloom{at: at, parent: p, there: there, name: there.Name}
			for _, pair := range p.Rename {
				if pair.From == there.Name {
					x.name = pair.To
				}
			}
			x.isDeferred = there.Kind == api.FeDeferred || slices.Contains(p.Undefine, x.name)
			for _, v := range there.Args {
				x.args = append(x.args, api.Var{Name: v.Name, Type: exchangedType(v.Type, actual)})
			}
			x.typed = exchangedType(there.Type, actual)
			out = append(out, x)
		}
	}
	m.heirs[c.Name] = out
	return out
}

func exchangedType(t api.Type, actual map[string]api.Type) api.Type {
	if a, is := actual[t.Name]; is && t.Kind == api.TyFormal {
		a.Void = a.Void || t.Void
		a.Sep = a.Sep || t.Sep
		return a
	}
	var args []api.Type
	for _, arg := range t.Args {
		args = append(args, exchangedType(arg, actual))
	}
	t.Args = args
	return t
}

func (m *measure) under(c api.Class, name string) []heirloom {
	var out []heirloom
	for _, x := range m.inherited(c) {
		if x.name == name {
			out = append(out, x)
		}
	}
	return out
}

func declared(c api.Class, name string) (api.Feature, bool) {
	for _, f := range c.Features {
		if f.Name == name {
			return f, true
		}
	}
	return api.Feature{}, false
}

// members returns the members of a class, whatever conflicts it has.
func (m *measure) members(class string) []api.Member {
	if l, is := m.known[class]; is {
		return l
	}
	c, _ := m.class(class)
	all := map[string]bool{}
	for _, x := range m.inherited(c) {
		all[x.name] = true
	}
	for _, f := range c.Features {
		all[f.Name] = true
	}
	var out []api.Member
	for name := range all {
		out = append(out, m.made(c, name))
	}
	slices.SortFunc(out, func(a, b api.Member) int { return strings.Compare(a.Name, b.Name) })
	m.known[class] = out
	return out
}

// made returns the member of a class with a name.
func (m *measure) made(c api.Class, name string) api.Member {
	own, isOwn := declared(c, name)
	come := m.under(c, name)
	var out api.Member
	seeds, pre, post := map[api.Seed]bool{}, map[string]bool{}, map[string]bool{}
	for _, x := range come {
		for _, s := range x.there.Seeds {
			seeds[s] = true
		}
		for _, g := range x.there.Pre {
			if text := groupText([]api.Group{g}); !pre[text] {
				pre[text] = true
				out.Pre = append(out.Pre, g)
			}
		}
		for _, g := range x.there.Post {
			if text := groupText([]api.Group{g}); !post[text] {
				post[text] = true
				out.Post = append(out.Post, g)
			}
		}
	}
	if isOwn {
		out.Kind, out.Args, out.Type, out.Clients, out.Impl = own.Kind, own.Args, own.Type, own.Clients, api.Seed{Class: c.Name, Name: name}
		if len(come) == 0 {
			seeds[out.Impl] = true
		}
		if len(come) == 0 || len(own.Require) > 0 {
			out.Pre = append(out.Pre, api.Group{Class: c.Name, Clauses: own.Require})
		}
		if len(own.Ensure) > 0 {
			out.Post = append(out.Post, api.Group{Class: c.Name, Clauses: own.Ensure})
		}
	} else {
		stays := come[0]
		for i := len(come) - 1; i >= 0; i-- {
			if !come[i].isDeferred {
				stays = come[i]
			}
		}
		out.Kind, out.Args, out.Type, out.Clients, out.Impl = stays.there.Kind, stays.args, stays.typed, stays.there.Clients, stays.there.Impl
		if stays.isDeferred {
			out.Kind = api.FeDeferred
		}
	}
	out.Name = name
	for s := range seeds {
		out.Seeds = append(out.Seeds, s)
	}
	sortSeeds(out.Seeds)
	return out
}

func sortSeeds(l []api.Seed) {
	slices.SortFunc(l, func(a, b api.Seed) int {
		return cmp.Or(strings.Compare(a.Class, b.Class), strings.Compare(a.Name, b.Name))
	})
}

func (m *measure) member(class, name string) (api.Member, bool) {
	for _, x := range m.members(class) {
		if x.Name == name {
			return x, true
		}
	}
	return api.Member{}, false
}

func (m *measure) names(class string, s api.Seed) []string {
	var out []string
	for _, x := range m.members(class) {
		if slices.Contains(x.Seeds, s) {
			out = append(out, x.Name)
		}
	}
	return out
}

// selected returns the names of which a seed may be selected under one, as the chapter says: just one is selected if it is the only one.
func (m *measure) selected(class string, s api.Seed) []string {
	names := m.names(class, s)
	if len(names) < 2 {
		return names
	}
	c, _ := m.class(class)
	inSelect, parents, heirs := map[string]bool{}, map[string]bool{}, map[string]string{}
	for _, x := range m.inherited(c) {
		if slices.Contains(x.there.Seeds, s) {
			parents[x.parent.Name] = true
			heirs[x.parent.Name+"."+x.there.Name] = x.name
			if slices.Contains(x.parent.Select, x.name) {
				inSelect[x.name] = true
			}
		}
	}
	if len(inSelect) > 0 {
		var out []string
		for name := range inSelect {
			out = append(out, name)
		}
		return out
	}
	if len(parents) > 1 {
		return nil
	}
	for parent := range parents {
		if there := m.selected(parent, s); len(there) == 1 { // it is not if the parent is wrong
			return []string{heirs[parent+"."+there[0]]}
		}
	}
	return nil
}

// parent returns the parent of a class with a name.
func parent(c api.Class, name string) (api.Parent, bool) {
	for _, p := range c.Parents {
		if p.Name == name {
			return p, true
		}
	}
	return api.Parent{}, false
}

// come returns the feature of an origin, if it comes to a class under a name.
func (m *measure) come(c api.Class, name string, o api.Origin) (heirloom, bool) {
	for _, x := range m.under(c, name) {
		if x.origin() == o {
			return x, true
		}
	}
	return heirloom{}, false
}

// fits tells whether a conflict is one of its class, by the row of the table.
func (m *measure) fits(x api.Conflict) bool {
	c, is := m.class(x.Class)
	if !is {
		return false
	}
	usesOther := x.Kind == api.CnSeed || x.Kind == api.CnApart
	usesB := x.Kind == api.CnSame || x.Kind == api.CnTypes || x.Kind == api.CnMany
	if !usesOther && x.Other != "" || !usesB && x.B != (api.Origin{}) {
		return false
	}
	switch x.Kind {
	case api.CnLost, api.CnBoth, api.CnIdle, api.CnSelect:
		p, is := parent(c, x.A.Parent)
		return is && x.A.Name == x.Name && m.fitsList(c, p, x)
	case api.CnSame:
		_, isA := m.come(c, x.Name, x.A)
		_, isB := m.come(c, x.Name, x.B)
		return isA && isB && x.A.Parent == x.B.Parent && x.A.Name != x.B.Name
	case api.CnOpen:
		f, is := m.member(c.Name, x.Name)
		return is && f.Kind == api.FeDeferred && !c.Deferred && x.A == api.Origin{}
	case api.CnSeed, api.CnApart:
		return m.fitsSeed(c, x)
	case api.CnTypes:
		return m.fitsTypes(c, x)
	case api.CnMany:
		a, isA := m.come(c, x.Name, x.A)
		b, isB := m.come(c, x.Name, x.B)
		_, isOwn := declared(c, x.Name)
		if !isA || !isB || isOwn || a.isDeferred || b.isDeferred {
			return false
		}
		return a.there.Impl != b.there.Impl || !alike(a.there.Seeds, b.there.Seeds) || a.signature() != b.signature()
	case api.CnUndo, api.CnFixed, api.CnTwo, api.CnBare:
		a, is := m.come(c, x.Name, x.A)
		return is && m.fitsFeature(c, a, x)
	}
	return false
}

func (m *measure) fitsList(c api.Class, p api.Parent, x api.Conflict) bool {
	comes := slices.ContainsFunc(m.under(c, x.Name), func(h heirloom) bool { return h.parent.Name == p.Name })
	switch x.Kind {
	case api.CnLost:
		_, isThere := m.member(p.Name, x.Name)
		old := slices.ContainsFunc(p.Rename, func(q api.Pair) bool { return q.From == x.Name })
		anew := slices.Contains(p.Undefine, x.Name) || slices.Contains(p.Redefine, x.Name) || slices.Contains(p.Select, x.Name)
		return old && !isThere || anew && !comes
	case api.CnBoth:
		return slices.Contains(p.Undefine, x.Name) && slices.Contains(p.Redefine, x.Name)
	case api.CnIdle:
		_, isOwn := declared(c, x.Name)
		return slices.Contains(p.Redefine, x.Name) && !isOwn
	}
	f, _ := m.member(c.Name, x.Name)
	for _, s := range f.Seeds {
		if len(m.names(c.Name, s)) > 1 {
			return false
		}
	}
	return slices.Contains(p.Select, x.Name) && comes
}

func (m *measure) fitsFeature(c api.Class, a heirloom, x api.Conflict) bool {
	own, isOwn := declared(c, x.Name)
	switch x.Kind {
	case api.CnUndo:
		return slices.Contains(a.parent.Undefine, x.Name) && a.there.Kind != api.FeRoutine
	case api.CnFixed:
		return isOwn && !a.isDeferred && a.there.Kind == api.FeAttr
	case api.CnTwo:
		return isOwn && !a.isDeferred && !slices.Contains(a.parent.Redefine, x.Name)
	}
	return isOwn && !a.isDeferred && own.Kind == api.FeDeferred
}

func (m *measure) fitsTypes(c api.Class, x api.Conflict) bool {
	b, isB := m.come(c, x.Name, x.B)
	if !isB {
		return false
	}
	if own, isOwn := declared(c, x.Name); isOwn {
		differs := signature(own.Args, api.Type{}) != signature(b.args, api.Type{}) || (own.Type.Kind == 0) != (b.typed.Kind == 0)
		return x.A == api.Origin{Name: x.Name} && differs
	}
	first := m.under(c, x.Name)[0]
	return x.A == first.origin() && first.signature() != b.signature()
}

func (m *measure) fitsSeed(c api.Class, x api.Conflict) bool {
	s := api.Seed{Class: x.A.Parent, Name: x.A.Name}
	names := m.names(c.Name, s)
	if x.Name == x.Other || !slices.Contains(names, x.Name) || !slices.Contains(names, x.Other) {
		return false
	}
	if x.Kind == api.CnSeed {
		return len(m.selected(c.Name, s)) != 1
	}
	a, _ := m.member(c.Name, x.Name)
	b, _ := m.member(c.Name, x.Other)
	return signature(a.Args, a.Type) != signature(b.Args, b.Type)
}

// candidates returns conflicts of a class, all that fit among them, each once.
func (m *measure) candidates(c api.Class) []api.Conflict {
	all := map[string]bool{}
	for _, x := range m.members(c.Name) {
		all[x.Name] = true
	}
	for _, p := range c.Parents {
		for _, name := range slices.Concat(p.Undefine, p.Redefine, p.Select) {
			all[name] = true
		}
		for _, pair := range p.Rename {
			all[pair.From], all[pair.To] = true, true
		}
	}
	var out []api.Conflict
	for name := range all {
		var origins []api.Origin
		for _, h := range m.under(c, name) {
			origins = append(origins, h.origin())
		}
		add := func(kind int, other string, a, b api.Origin) {
			out = append(out, api.Conflict{Kind: kind, Class: c.Name, Name: name, Other: other, A: a, B: b})
		}
		add(api.CnOpen, "", api.Origin{}, api.Origin{})
		for _, p := range c.Parents {
			for _, kind := range []int{api.CnLost, api.CnBoth, api.CnIdle, api.CnSelect} {
				add(kind, "", api.Origin{Parent: p.Name, Name: name}, api.Origin{})
			}
		}
		for _, a := range origins {
			for _, kind := range []int{api.CnUndo, api.CnFixed, api.CnTwo, api.CnBare} {
				add(kind, "", a, api.Origin{})
			}
			add(api.CnTypes, "", api.Origin{Name: name}, a)
			for _, b := range origins {
				for _, kind := range []int{api.CnSame, api.CnTypes, api.CnMany} {
					add(kind, "", a, b)
				}
			}
		}
		if f, is := m.member(c.Name, name); is {
			for _, s := range f.Seeds {
				for other := range all {
					add(api.CnSeed, other, api.Origin{Parent: s.Class, Name: s.Name}, api.Origin{})
					add(api.CnApart, other, api.Origin{Parent: s.Class, Name: s.Name}, api.Origin{})
				}
			}
		}
	}
	return out
}

// conflicts returns all conflicts of a class, in the order in which they are looked for.
func (m *measure) conflicts(class string) []api.Conflict {
	c, _ := m.class(class)
	var out []api.Conflict
	for _, x := range m.candidates(c) {
		if m.fits(x) {
			out = append(out, x)
		}
	}
	slices.SortFunc(out, func(x, y api.Conflict) int { return slices.Compare(m.place(c, x), m.place(c, y)) })
	return out
}

// place returns numbers that tell where a conflict is looked for.
func (m *measure) place(c api.Class, x api.Conflict) []int {
	var names []string
	var seeds []api.Seed
	for _, f := range m.members(c.Name) {
		names = append(names, f.Name)
		seeds = append(seeds, f.Seeds...)
	}
	sortSeeds(seeds)
	at := slices.IndexFunc(c.Parents, func(p api.Parent) bool { return p.Name == x.A.Parent })
	p := api.Parent{}
	if at >= 0 {
		p = c.Parents[at]
	}
	come := func(o api.Origin) int {
		return slices.IndexFunc(m.inherited(c), func(h heirloom) bool { return h.origin() == o })
	}
	name := slices.Index(names, x.Name)
	switch x.Kind {
	case api.CnLost:
		var lists []string
		for _, pair := range p.Rename {
			if _, isThere := m.member(p.Name, pair.From); !isThere {
				lists = append(lists, pair.From)
			}
		}
		for _, other := range slices.Concat(p.Undefine, p.Redefine, p.Select) {
			if !slices.ContainsFunc(m.under(c, other), func(h heirloom) bool { return h.parent.Name == p.Name }) {
				lists = append(lists, other)
			}
		}
		return []int{x.Kind, at, slices.Index(lists, x.Name)}
	case api.CnBoth, api.CnUndo:
		return []int{x.Kind, at, slices.Index(p.Undefine, x.Name), come(x.A)}
	case api.CnIdle:
		return []int{x.Kind, at, slices.Index(p.Redefine, x.Name)}
	case api.CnSelect:
		return []int{x.Kind, at, slices.Index(p.Select, x.Name)}
	case api.CnSame:
		return []int{x.Kind, at, name, come(x.A), come(x.B)}
	case api.CnSeed, api.CnApart:
		return []int{x.Kind, slices.Index(seeds, api.Seed{Class: x.A.Parent, Name: x.A.Name}), name, slices.Index(names, x.Other)}
	}
	return []int{x.Kind, name, come(x.A), come(x.B)}
}

// isTooLarge tells whether a class has too many members, or a type of too many parts.
func (m *measure) isTooLarge(class string) bool {
	members := m.members(class)
	for _, f := range members {
		for _, v := range append([]api.Var{{Type: f.Type}}, f.Args...) {
			if countParts(v.Type) > 400 {
				return true
			}
		}
	}
	return len(members) > 60
}

func countParts(t api.Type) int {
	n := 1
	for _, arg := range t.Args {
		n += countParts(arg)
	}
	return n
}

// isRight tells whether neither a class nor an ancestor of it has a conflict, or is too large.
func (m *measure) isRight(class string) bool {
	c, _ := m.class(class)
	for _, p := range c.Parents {
		if !m.isRight(p.Name) {
			return false
		}
	}
	return len(m.conflicts(class)) == 0 && !m.isTooLarge(class)
}

// clash returns what Clash does.
func (m *measure) clash() (api.Conflict, bool, api.Errno) {
	order, _ := heir.Order(m.l)
	for _, class := range order {
		if all := m.conflicts(class); len(all) > 0 {
			return all[0], true, api.OK
		}
		if m.isTooLarge(class) {
			return api.Conflict{}, false, api.ErrLimit
		}
	}
	return api.Conflict{}, false, api.OK
}

// checkClash returns what CheckClash does.
func (m *measure) checkClash(x api.Conflict) api.Errno {
	c, is := m.class(x.Class)
	if !is || slices.ContainsFunc(c.Parents, func(p api.Parent) bool { return !m.isRight(p.Name) }) || !m.fits(x) {
		return api.ErrProof
	}
	return api.OK
}

// flats returns what Flats does, of a system without conflicts.
func (m *measure) flats() []api.Flat {
	order, _ := heir.Order(m.l)
	var out []api.Flat
	for _, class := range order {
		c, _ := m.class(class)
		f := api.Flat{Name: class, Deferred: c.Deferred, Members: m.members(class)}
		above, _ := heir.Above(m.l, class)
		for _, name := range above {
			if a, _ := m.class(name); len(a.Invariant) > 0 {
				f.Invariant = append(f.Invariant, api.Group{Class: name, Clauses: a.Invariant})
			}
		}
		out = append(out, f)
	}
	return out
}

// version returns what Version does, of a system without conflicts, of classes and a name that there are.
func (m *measure) version(descendant, class, name string) (string, api.Errno) {
	f, _ := m.member(class, name)
	if is, _ := heir.Is(m.l, descendant, class); !is {
		return "", api.ErrNone
	}
	count := map[string]int{}
	for _, s := range f.Seeds {
		for _, n := range m.names(descendant, s) {
			count[n]++
		}
	}
	var all []string
	for n, k := range count {
		if k == len(f.Seeds) {
			all = append(all, n)
		}
	}
	first := m.selected(descendant, f.Seeds[0])[0]
	switch {
	case len(all) == 1:
		return all[0], api.OK
	case slices.Contains(all, first):
		return first, api.OK
	}
	return "", api.ErrNone
}

// open returns what Open does for a member.
func (m *measure) open(f api.Member, client string) (bool, api.Errno) {
	if slices.Contains(f.Clients, "ANY") {
		return true, api.OK
	}
	if _, is := m.class(client); !is {
		return false, api.ErrNone
	}
	for _, name := range f.Clients {
		if is, _ := heir.Is(m.l, client, name); is {
			return true, api.OK
		}
	}
	return false, api.OK
}
