package kind_test

import (
	"slices"
	"strings"

	"cosigner/api"
	"cosigner/heir"
)

// The functions of this file are the chapter's definitions, word by word: the tests compare the package with them.

// checked is Check, for whatever list of classes.
func checked(l []api.Class) (api.Errno, string) {
	if err, class := heir.Check(l); err != api.OK {
		return err, class
	}
	for _, c := range l {
		if err := formalsChecked(l, c); err != api.OK {
			return err, c.Name
		}
	}
	for _, c := range l {
		if err := parentsChecked(l, c); err != api.OK {
			return err, c.Name
		}
	}
	order, _ := heir.Order(l)
	for _, name := range order {
		if err := instancesChecked(l, classOf(l, name)); err != api.OK {
			return err, name
		}
	}
	return api.OK, ""
}

func formalsChecked(l []api.Class, c api.Class) api.Errno {
	if len(c.Formals) > api.MaxFormals {
		return api.ErrLimit
	}
	for i, f := range c.Formals {
		switch {
		case !isName(f.Name):
			return api.ErrName
		case slices.Index(formalNames(c), f.Name) < i || isClass(l, f.Name):
			return api.ErrTwice
		case f.Bound != "ANY" && !isClass(l, f.Bound):
			return api.ErrNone
		case len(classOf(l, f.Bound).Formals) > 0:
			return api.ErrType
		}
	}
	return api.OK
}

func parentsChecked(l []api.Class, c api.Class) api.Errno {
	for _, p := range c.Parents {
		formals := classOf(l, p.Name).Formals
		if len(p.Args) != len(formals) {
			return api.ErrType
		}
		for i, arg := range p.Args {
			if depth(arg) > api.MaxNest {
				return api.ErrLimit
			}
			if err := argRight(l, c, arg, formals[i].Bound); err != api.OK {
				return err
			}
		}
	}
	return api.OK
}

func instancesChecked(l []api.Class, c api.Class) api.Errno {
	known := map[string][]api.Type{}
	for _, p := range c.Parents {
		above, _ := heir.Above(l, p.Name)
		for _, a := range above {
			args := along(l, p.Args, anyWay(l, p.Name, a))
			if size(args) > api.MaxKindParts {
				return api.ErrLimit
			}
			if before, is := known[a]; is && !alike(before, args) {
				return api.ErrClash
			}
			known[a] = args
		}
	}
	return api.OK
}

// isName tells whether a class may have this name.
func isName(s string) bool {
	const capitals, later = "ABCDEFGHIJKLMNOPQRSTUVWXYZ", "0123456789_"
	if s == "" || len(s) > api.MaxName || slices.Contains([]string{"INTEGER", "BOOLEAN", "ANY", "NONE"}, s) {
		return false
	}
	return strings.Contains(capitals, s[:1]) && strings.Trim(s, capitals+later) == ""
}

func isClass(l []api.Class, name string) bool {
	return slices.ContainsFunc(l, func(c api.Class) bool { return c.Name == name })
}

// isUnder tells whether a class is an ancestor of another one; ANY is none.
func isUnder(l []api.Class, c, a string) bool {
	return c == a && c != "ANY" || slices.ContainsFunc(classOf(l, c).Parents, func(p api.Parent) bool { return isUnder(l, p.Name, a) })
}

// depth returns how deep a type is nested.
func depth(t api.Type) int {
	n := 0
	for _, arg := range t.Args {
		n = max(n, depth(arg))
	}
	return n + 1
}

// size returns how many types there are, with their actual types.
func size(l []api.Type) int {
	n := 0
	for _, t := range l {
		n += 1 + size(t.Args)
	}
	return n
}

// anyWay returns a way from a class to an ancestor: the one by the last parents.
func anyWay(l []api.Class, c, a string) []string {
	if c == a {
		return []string{c}
	}
	for _, p := range slices.Backward(classOf(l, c).Parents) {
		if isUnder(l, p.Name, a) {
			return append([]string{c}, anyWay(l, p.Name, a)...)
		}
	}
	return nil
}

// allWays returns all ways from a class to an ancestor.
func allWays(l []api.Class, c, a string) [][]string {
	if c == a {
		return [][]string{{c}}
	}
	var out [][]string
	for _, p := range classOf(l, c).Parents {
		for _, w := range allWays(l, p.Name, a) {
			out = append(out, append([]string{c}, w...))
		}
	}
	return out
}

// along returns what the formals of the last class of a way are, if those of the first one are some types.
func along(l []api.Class, args []api.Type, way []string) []api.Type {
	for i := range len(way) - 1 {
		c := classOf(l, way[i])
		at := slices.IndexFunc(c.Parents, func(p api.Parent) bool { return p.Name == way[i+1] })
		args = replacedAll(c.Formals, args, c.Parents[at].Args)
	}
	return args
}

func replacedAll(formals []api.Formal, args, l []api.Type) []api.Type {
	var out []api.Type
	for _, t := range l {
		out = append(out, replaced(formals, args, t))
	}
	return out
}

// replaced returns a type in which formals are replaced by types.
func replaced(formals []api.Formal, args []api.Type, t api.Type) api.Type {
	if t.Kind == api.TyClass {
		t.Args = replacedAll(formals, args, t.Args)
	}
	if t.Kind != api.TyFormal {
		return t
	}
	for i, f := range formals {
		if f.Name == t.Name && i < len(args) {
			u := args[i]
			return api.Type{Kind: u.Kind, Name: u.Name, Args: u.Args, Void: u.Void || t.Void, Sep: u.Sep}
		}
	}
	return t
}

// right is Right, in a class whose system has no error.
func right(l []api.Class, c api.Class, t api.Type) api.Errno {
	if depth(t) > api.MaxNest {
		return api.ErrLimit
	}
	switch t.Kind {
	case api.TyInt, api.TyBool, api.TyNone:
		if t.Name != "" || len(t.Args) > 0 || t.Void || t.Sep {
			return api.ErrForm
		}
	case api.TyFormal:
		if len(t.Args) > 0 || t.Sep {
			return api.ErrForm
		}
		if !slices.Contains(formalNames(c), t.Name) {
			return api.ErrNone
		}
	case api.TyClass:
		if t.Name != "ANY" && !isClass(l, t.Name) {
			return api.ErrNone
		}
		formals := classOf(l, t.Name).Formals
		if len(t.Args) != len(formals) {
			return api.ErrType
		}
		for i, arg := range t.Args {
			if err := argRight(l, c, arg, formals[i].Bound); err != api.OK {
				return err
			}
		}
	default:
		return api.ErrForm
	}
	return api.OK
}

// argRight returns the error of an actual type for a formal with a bound.
func argRight(l []api.Class, c api.Class, arg api.Type, bound string) api.Errno {
	if arg.Kind != api.TyClass && arg.Kind != api.TyFormal || arg.Void || arg.Sep {
		return api.ErrType
	}
	if err := right(l, c, arg); err != api.OK {
		return err
	}
	if bound != "ANY" && !isUnder(l, classType(c, arg).Name, bound) {
		return api.ErrType
	}
	return api.OK
}

// classType returns a class type, or the bound of a formal with the Void and Sep of this one.
func classType(c api.Class, t api.Type) api.Type {
	for _, f := range c.Formals {
		if t.Kind == api.TyFormal && f.Name == t.Name {
			return api.Type{Kind: api.TyClass, Name: f.Bound, Void: t.Void, Sep: t.Sep}
		}
	}
	return t
}

func isPlain(t api.Type) bool {
	return t.Kind == api.TyInt || t.Kind == api.TyBool
}

func isReference(t api.Type) bool {
	return t.Kind == api.TyClass || t.Kind == api.TyFormal
}

// conforms is L3, of two right types in a class.
func conforms(l []api.Class, c api.Class, s, t api.Type) bool {
	switch {
	case s.Kind == api.TyInt && t.Kind == api.TyInt, s.Kind == api.TyBool && t.Kind == api.TyBool:
		return true
	case s.Kind == api.TyNone:
		return t.Void
	case !isReference(s) || !isReference(t) || s.Void && !t.Void || s.Sep && !t.Sep:
		return false
	case t.Kind == api.TyFormal:
		return s.Kind == api.TyFormal && s.Name == t.Name
	case t.Name == "ANY":
		return true
	case s.Kind == api.TyFormal:
		return conforms(l, c, classType(c, s), t)
	}
	return isUnder(l, s.Name, t.Name) && alike(along(l, s.Args, anyWay(l, s.Name, t.Name)), t.Args)
}

// reason is Why, of two right types in a class: the first sentence that is so.
func reason(l []api.Class, c api.Class, s, t api.Type) api.Reason {
	is := conforms(l, c, s, t)
	way, _ := heir.Way(l, classType(c, s).Name, t.Name)
	for _, rule := range []struct {
		holds bool
		r     api.Reason
	}{
		{is && isPlain(s), api.Reason{Rule: api.RuInt}},
		{is && s.Kind == api.TyNone, api.Reason{Rule: api.RuVoid}},
		{is && t.Kind == api.TyClass && t.Name == "ANY", api.Reason{Rule: api.RuAny}},
		{is && t.Kind == api.TyFormal, api.Reason{Rule: api.RuFormal}},
		{is, api.Reason{Rule: api.RuWay, Way: way}},
		{t.Kind != s.Kind && (isPlain(s) || isPlain(t)), api.Reason{Rule: api.NoKind}},
		{t.Kind == api.TyNone, api.Reason{Rule: api.NoKind}},
		{(s.Kind == api.TyNone || s.Void) && !t.Void, api.Reason{Rule: api.NoVoid}},
		{s.Sep && !t.Sep, api.Reason{Rule: api.NoSep}},
		{t.Kind == api.TyFormal, api.Reason{Rule: api.NoKind}},
		{len(way) == 0, api.Reason{Rule: api.NoClass}},
	} {
		if rule.holds {
			return rule.r
		}
	}
	return api.Reason{Rule: api.NoArgs, Way: way}
}

// supers is Supers, of a right type in a class.
func supers(l []api.Class, c api.Class, t api.Type) []api.Type {
	if !isReference(t) {
		return nil
	}
	own := classType(c, t)
	var out []api.Type
	above, _ := heir.Above(l, own.Name)
	for _, a := range slices.Backward(above) {
		out = append(out, api.Type{Kind: api.TyClass, Name: a, Args: along(l, own.Args, anyWay(l, own.Name, a)), Void: t.Void, Sep: t.Sep})
	}
	return append(out, api.Type{Kind: api.TyClass, Name: "ANY", Void: t.Void, Sep: t.Sep})
}

// joins is what P5.14 says of Joins, of two right types in a class, not both that of Void: the types to which both conform, and to which no other one of these does.
func joins(l []api.Class, c api.Class, a, b api.Type) []api.Type {
	var common []api.Type
	for _, t := range candidates(l, c, a, b) {
		if conforms(l, c, a, t) && conforms(l, c, b, t) {
			common = append(common, t)
		}
	}
	return slices.DeleteFunc(slices.Clone(common), func(t api.Type) bool {
		return slices.ContainsFunc(common, func(other api.Type) bool { return !alike(other, t) && conforms(l, c, other, t) })
	})
}

// candidates returns all types to which both of two types may conform; those of the first one are in the order of Supers.
func candidates(l []api.Class, c api.Class, a, b api.Type) []api.Type {
	out := []api.Type{{Kind: api.TyInt}, {Kind: api.TyBool}}
	for _, t := range append(append(append([]api.Type{a, b}, supers(l, c, a)...), supers(l, c, b)...), formalTypes(c)...) {
		if !isReference(t) {
			continue
		}
		for _, more := range []api.Type{{}, {Void: true}, {Sep: true}, {Void: true, Sep: true}} {
			t.Void, t.Sep = more.Void, more.Sep && t.Kind == api.TyClass
			if !slices.ContainsFunc(out, func(u api.Type) bool { return alike(t, u) }) {
				out = append(out, t)
			}
		}
	}
	return out
}

func formalTypes(c api.Class) []api.Type {
	var out []api.Type
	for _, f := range c.Formals {
		out = append(out, api.Type{Kind: api.TyFormal, Name: f.Name})
	}
	return out
}
