package flat

import (
	"iter"

	"cosigner/api"
)

// Clash returns the first conflict of a system, if there is one.
func Clash(l []api.Class) (api.Conflict, bool, api.Errno) {
	if err, _ := Check(l); err != api.OK {
		return api.Conflict{}, false, err
	}
	_, wrong := together(l)
	switch {
	case wrong == nil:
		return api.Conflict{}, false, api.OK
	case wrong.clashes:
		return wrong.first, true, api.OK
	}
	return api.Conflict{}, false, api.ErrLimit
}

// CheckClash tells whether a conflict is one of a system.
func CheckClash(l []api.Class, c api.Conflict) api.Errno {
	if err, _ := Check(l); err != api.OK {
		return err
	}
	for f := range formsOf(l) {
		if f.class.Name == c.Class && f.clashesBy(c) {
			return api.OK
		}
	}
	return api.ErrProof
}

// firstConflict returns the first conflict of a class, if it has one.
func (f *form) firstConflict() (api.Conflict, bool) {
	var first api.Conflict
	found := false
search:
	for _, row := range f.rows() {
		for c := range row {
			first, found = c, true
			break search
		}
	}
	return first, found
}

// clashesBy tells whether a class has a conflict.
func (f *form) clashesBy(c api.Conflict) bool {
	for kind, row := range f.rows() {
		if kind+api.CnLost != c.Kind {
			continue
		}
		for own := range row {
			if own == c || own == exchanged(c) {
				return true
			}
		}
	}
	return false
}

// exchanged returns a conflict that says the same with both sides exchanged, if its kind has two such sides.
func exchanged(c api.Conflict) api.Conflict {
	switch c.Kind {
	case api.CnSame, api.CnMany:
		c.A, c.B = c.B, c.A
	case api.CnSeed, api.CnApart:
		c.Name, c.Other = c.Other, c.Name
	}
	return c
}

// rows returns what yields the conflicts of each kind, in the order of the kinds.
func (f *form) rows() []iter.Seq[api.Conflict] {
	return []iter.Seq[api.Conflict]{
		f.lost(), f.both(), f.same, f.undo, f.idle(), f.fixed(), f.two(),
		f.bare(), f.types, f.many, f.seed, f.chosen(), f.open, f.apart,
	}
}
