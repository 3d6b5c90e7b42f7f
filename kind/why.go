package kind

import (
	"cosigner/api"
	"cosigner/heir"
)

// Conforms reports whether a type conforms to another one.
func Conforms(l []api.Class, class string, s, t api.Type) (bool, api.Errno) {
	x, err := enter(l, class, s, t)
	if err != api.OK {
		return false, err
	}
	return x.conforms(s, t), api.OK
}

// Why returns why a type conforms to another one, or why it does not.
func Why(l []api.Class, class string, s, t api.Type) (api.Reason, api.Errno) {
	x, err := enter(l, class, s, t)
	if err != api.OK {
		return api.Reason{}, err
	}
	r := api.Reason{Rule: x.rule(s, t)}
	if hasWay(r.Rule) {
		r.Way, _ = heir.Way(l, x.classType(s).Name, t.Name)
	}
	return r, api.OK
}

// CheckWhy returns OK if a reason holds.
func CheckWhy(l []api.Class, class string, s, t api.Type, r api.Reason) api.Errno {
	x, err := enter(l, class, s, t)
	if err != api.OK {
		return err
	}
	holds := len(r.Way) == 0
	if hasWay(r.Rule) {
		holds = heir.CheckWay(l, x.classType(s).Name, t.Name, r.Way) == api.OK
	}
	if !holds || r.Rule != x.rule(s, t) {
		return api.ErrProof
	}
	return api.OK
}

// hasWay tells of which rules the way of classes is a part of the reason.
func hasWay(rule int) bool {
	return rule == api.RuWay || rule == api.NoArgs
}

// conforms tells whether a right type conforms to another one.
func (x scope) conforms(s, t api.Type) bool {
	return x.rule(s, t) < api.NoVoid
}

// rule returns the rule by which a right type conforms to another one, or does not.
func (x scope) rule(s, t api.Type) int {
	switch {
	case isPlain(t) && s.Kind == t.Kind:
		return api.RuInt
	case isPlain(s) || isPlain(t) || t.Kind == api.TyNone:
		return api.NoKind
	case s.Kind == api.TyNone && t.Void:
		return api.RuVoid
	case s.Kind == api.TyNone || s.Void && !t.Void:
		return api.NoVoid
	case s.Sep && !t.Sep:
		return api.NoSep
	case t.Kind == api.TyFormal && s.Kind == api.TyFormal && s.Name == t.Name:
		return api.RuFormal
	case t.Kind == api.TyFormal:
		return api.NoKind
	case t.Name == everything:
		return api.RuAny
	}
	args, is := x.instance(x.classType(s), t.Name)
	switch {
	case !is:
		return api.NoClass
	case !sameTypes(args, t.Args):
		return api.NoArgs
	}
	return api.RuWay
}
