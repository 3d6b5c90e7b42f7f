package flat

import (
	"slices"

	"cosigner/api"
)

// Subst returns a type in which formals are replaced.
func Subst(t api.Type, formals []api.Formal, args []api.Type) (api.Type, api.Errno) {
	if len(formals) != len(args) {
		return api.Type{}, api.ErrForm
	}
	return copyType(replaced(t, formals, args)), api.OK
}

// replaced returns a type in which formals are replaced by actual types, whose memory it shares.
func replaced(t api.Type, formals []api.Formal, args []api.Type) api.Type {
	if t.Kind == api.TyFormal {
		i := slices.Index(each(formals, formalName), t.Name)
		if i >= 0 {
			actual := args[i]
			actual.Void = actual.Void || t.Void
			actual.Sep = actual.Sep || t.Sep
			return actual
		}
	}
	t.Args = each(t.Args, func(arg api.Type) api.Type { return replaced(arg, formals, args) })
	return t
}

// parts returns how many parts a type has; it counts no further than to the first one that is too much.
func parts(t api.Type) int {
	n := 1
	for _, arg := range t.Args {
		if n > api.MaxKindParts {
			break
		}
		n += parts(arg)
	}
	return n
}

// hasLongType tells whether a member has a type, of an argument or of its result, that has too many parts.
func hasLongType(m api.Member) bool {
	isLong := func(t api.Type) bool { return parts(t) > api.MaxKindParts }
	return isLong(m.Type) || slices.ContainsFunc(m.Args, func(v api.Var) bool { return isLong(v.Type) })
}

// hasResult tells whether a type is that of something that is returned.
func hasResult(t api.Type) bool {
	return t.Kind != api.TyNone
}
