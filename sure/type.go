package sure

import (
	"slices"
	"strconv"

	"cosigner/api"
	"cosigner/flat"
	"cosigner/kind"
)

// plain is a type without actual types, which can be compared as a struct.
type plain struct {
	kind      int
	name      string
	void, sep bool
}

// plainOf returns a type as a plain one, and whether it is one.
func plainOf(t api.Type) (plain, bool) {
	return plain{t.Kind, t.Name, t.Void, t.Sep}, len(t.Args) == 0
}

// question is what package kind is asked of types, which are told by their texts; it is asked once, as each answer costs a look at the whole system.
type question struct{ class, s, t string }

// sight is a type at a target, and whether it is a right one there.
type sight struct {
	t       api.Type
	isRight bool
}

// text returns a text that only this type has, whatever names it has.
func text(t api.Type) string {
	out := strconv.Itoa(t.Kind) + strconv.FormatBool(t.Void) + strconv.FormatBool(t.Sep) + strconv.Quote(t.Name)
	for _, a := range t.Args {
		out += "(" + text(a) + ")"
	}
	return out
}

// rightError returns the first error of a type in a class.
func (s *system) rightError(class string, t api.Type) api.Errno {
	return remembered(s.rights, question{class: class, t: text(t)}, func() api.Errno { return kind.Right(s.list, class, t) })
}

// isConforming tells whether a type, which is right, conforms to another one in a class; nothing conforms to a type that is not right.
func (s *system) isConforming(class string, a, b api.Type) bool {
	p, isPlain := plainOf(a)
	q, isPlainToo := plainOf(b)
	if isPlain && isPlainToo && p == q && p.kind != api.TyNone {
		return true
	}
	return remembered(s.conforms, question{class, text(a), text(b)}, func() bool {
		is, err := kind.Conforms(s.list, class, a, b)
		return is || err == api.ErrLimit && s.isConformingDeep(class, a, b)
	})
}

// isConformingDeep tells so of types of which one is nested too deep to be handed in, as types of calls may be (P6.9).
func (s *system) isConformingDeep(class string, a, b api.Type) bool {
	if a.Kind == api.TyNone {
		return b.Void
	}
	if a.Void && !b.Void || a.Sep && !b.Sep {
		return false
	}
	args, err := kind.Instance(s.list, s.classType(class, a), b.Name)
	return err == api.OK && slices.EqualFunc(args, b.Args, kind.Same)
}

// classType returns the class type of a class type or a formal (this one attached).
func (s *system) classType(class string, t api.Type) api.Type {
	for _, f := range s.classes[class].Formals {
		if t.Kind == api.TyFormal && t.Name == f.Name {
			return api.Type{Kind: api.TyClass, Name: f.Bound}
		}
	}
	return t
}

// seen returns what a type of a class's feature is at a target of this class, and whether it is a right one there.
func (s *system) seen(target, t api.Type) (api.Type, bool) {
	if _, isPlain := plainOf(t); isPlain && t.Kind != api.TyFormal {
		return t, s.rightError(target.Name, t) == api.OK
	}
	at := remembered(s.sights, question{target.Name, text(target), text(t)}, func() sight {
		at, err := kind.Seen(s.list, target, target.Name, t)
		return sight{at, err == api.OK}
	})
	return at.t, at.isRight
}

// asInherited returns the type of a parent's feature in a class.
func (s *system) asInherited(p api.Parent, t api.Type) api.Type {
	out, _ := flat.Subst(t, s.classes[p.Name].Formals, p.Args)
	return out
}

// current returns the type of Current in a class.
func current(c api.Class) api.Type {
	args := each(c.Formals, func(f api.Formal) api.Type { return api.Type{Kind: api.TyFormal, Name: f.Name} })
	return api.Type{Kind: api.TyClass, Name: c.Name, Args: args}
}

// isObject tells whether values of a type are objects.
func isObject(t api.Type) bool {
	return t.Kind == api.TyClass || t.Kind == api.TyFormal
}

// needsSetting tells whether a variable of a type must not be read before it is set.
func needsSetting(t api.Type) bool {
	return isObject(t) && !t.Void
}

func attached(t api.Type) api.Type {
	t.Void = false
	return t
}

// copyType returns a copy of a type that shares no memory with it.
func copyType(t api.Type) api.Type {
	t.Args = each(t.Args, copyType)
	return t
}
