package flat

import (
	"slices"
	"strings"

	"cosigner/api"
	"cosigner/heir"
)

// reserved has a blank on either side of each word that is no name, though its bytes are those of one.
const reserved = " and as attached check class create deferred detachable do else end ensure feature from if implies inherit invariant local loop not old or put raise redefine rename require rescue retry select separate then undefine until variant when true false void current result "

// Check returns the first error of the form of a system, and the class where it is.
func Check(l []api.Class) (api.Errno, string) {
	if err, name := heir.Check(l); err != api.OK {
		return err, name
	}
	classes := byName(l)
	for _, c := range l {
		if err := classError(c, classes); err != api.OK {
			return err, c.Name
		}
	}
	return api.OK, ""
}

// classError returns the first error of the form of a class.
func classError(c api.Class, classes map[string]api.Class) api.Errno {
	misfits := func(p api.Parent) bool { return len(p.Args) != len(classes[p.Name].Formals) }
	switch {
	case len(c.Formals) > api.MaxFormals:
		return api.ErrLimit
	case repeats(each(c.Formals, formalName)):
		return api.ErrTwice
	case slices.ContainsFunc(c.Parents, misfits):
		return api.ErrForm
	case len(c.Features) > api.MaxMembers:
		return api.ErrLimit
	}
	names := each(c.Features, featureName)
	for i, f := range c.Features {
		if err := featureError(f, names[:i]); err != api.OK {
			return err
		}
	}
	for _, p := range c.Parents {
		if err := renameError(p.Rename); err != api.OK {
			return err
		}
	}
	return api.OK
}

// featureError returns the first error of the form of a feature that is declared behind others, which have these names.
func featureError(f api.Feature, ahead []string) api.Errno {
	switch {
	case !isSmall(f.Name):
		return api.ErrName
	case slices.Contains(ahead, f.Name):
		return api.ErrTwice
	case f.Kind == api.FeAttr && (len(f.Args) > 0 || f.Type.Kind == api.TyNone):
		return api.ErrForm
	case f.Kind < api.FeAttr || f.Kind > api.FeDeferred:
		return api.ErrForm
	}
	return api.OK
}

// renameError returns the first error of the form of new names.
func renameError(l []api.Pair) api.Errno {
	switch {
	case slices.ContainsFunc(l, func(p api.Pair) bool { return !isSmall(p.To) }):
		return api.ErrName
	case repeats(each(l, oldName)):
		return api.ErrTwice
	}
	return api.OK
}

// isSmall tells whether a feature may have this name.
func isSmall(s string) bool {
	if s == "" || len(s) > api.MaxName || strings.Contains(reserved, " "+s+" ") {
		return false
	}
	for i := range len(s) {
		if !isSmallLetter(s[i]) && (i == 0 || !isLater(s[i])) {
			return false
		}
	}
	return true
}

func isSmallLetter(b byte) bool {
	return b >= 'a' && b <= 'z'
}

// isLater tells whether a byte that is no letter may stand in a name behind its first one.
func isLater(b byte) bool {
	return b >= '0' && b <= '9' || b == '_'
}
