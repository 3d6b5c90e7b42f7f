package kind

import (
	"slices"

	"cosigner/api"
)

// Same reports whether two types are equal.
func Same(a, b api.Type) bool {
	return a.Kind == b.Kind && a.Name == b.Name && a.Void == b.Void && a.Sep == b.Sep && sameTypes(a.Args, b.Args)
}

func sameTypes(a, b []api.Type) bool {
	return slices.EqualFunc(a, b, Same)
}

// Subst returns a type in which formals are replaced by types.
func Subst(formals []api.Formal, args []api.Type, t api.Type) api.Type {
	return copyType(replacer(formals, args)(t))
}

// replacer returns a function that replaces formals in a type; what it returns shares memory with the types, so that it is no larger than what it was.
func replacer(formals []api.Formal, args []api.Type) func(api.Type) api.Type {
	actual := map[string]api.Type{}
	for i, f := range formals[:min(len(formals), len(args))] {
		if !has(actual, f.Name) {
			actual[f.Name] = args[i]
		}
	}
	var replace func(api.Type) api.Type
	replace = func(t api.Type) api.Type {
		arg, found := actual[t.Name]
		switch {
		case t.Kind == api.TyFormal && found:
			arg.Void = arg.Void || t.Void
			return arg
		case t.Kind == api.TyClass:
			t.Args = each(t.Args, replace)
		}
		return t
	}
	return replace
}

// copyType returns a copy of a type that shares no memory with it.
func copyType(t api.Type) api.Type {
	t.Args = each(t.Args, copyType)
	return t
}

func classNamed(name string) api.Type {
	return api.Type{Kind: api.TyClass, Name: name}
}

func formalType(f api.Formal) api.Type {
	return api.Type{Kind: api.TyFormal, Name: f.Name}
}

// isPlain tells whether a type is INTEGER or BOOLEAN.
func isPlain(t api.Type) bool {
	return t.Kind == api.TyInt || t.Kind == api.TyBool
}

func bare(t api.Type) api.Type {
	return with(t, false, false)
}

// with returns a type that is detachable, and separate, or not.
func with(t api.Type, void, sep bool) api.Type {
	t.Void, t.Sep = void, sep
	return t
}

// isDeeper tells whether a type is nested more than so deep.
func isDeeper(t api.Type, deep int) bool {
	return deep == 0 || slices.ContainsFunc(t.Args, func(arg api.Type) bool { return isDeeper(arg, deep-1) })
}

// count returns how many types there are in a list, with their actual types; it goes no further than to the first one that is too much.
func count(l []api.Type) int {
	n := len(l)
	for _, t := range l {
		if n > api.MaxKindParts {
			break
		}
		n += count(t.Args)
	}
	return n
}
