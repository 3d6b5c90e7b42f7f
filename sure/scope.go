package sure

import "cosigner/api"

// The parts of a feature. An invariant is looked at as the Require of a feature that has nothing else.
const (
	inRequire = iota
	inBody
	inEnsure
	inRescue
)

// The kinds of variables.
const (
	isArgument = iota
	isLocal
	isAttached
	isSeparate
)

// result is the name of Result.
const result = "Result"

// variable is one of a feature. Arguments and locals are always known, others where they are bound.
type variable struct {
	api.Var
	role    int
	isKnown bool
}

// slot is what may need setting: a local or Result; or an attribute of the class that is created.
type slot struct {
	isAttribute bool
	name        string
}

// creation is how a feature is looked at that creates objects of a class: which attributes of these it must set, and what the members of its own class are there. An empty one asks for nothing.
type creation struct {
	needs []string
	names map[string]string
}

// scope is what is known at a node of a feature, or of an invariant.
type scope struct {
	*system
	creation
	class   api.Class
	feature api.Feature

	vars   map[string]*variable
	needed map[slot]bool // all that needs setting
	set    map[slot]bool // what is set of it
	part   int
	isTags bool
	isOld  bool
}

// isAssertion tells whether what is looked at is a clause.
func (c *scope) isAssertion() bool {
	return c.part != inBody && c.part != inRescue || c.isTags
}

// member returns a feature of the class, and whether there is one.
func (c *scope) member(name string) (api.Member, bool) {
	m, found := c.members[c.class.Name][name]
	return m, found
}

// variable returns a variable that is known, and whether there is one.
func (c *scope) variable(name string) (*variable, bool) {
	v, found := c.vars[name]
	return v, found && v.isKnown
}

// isControlled tells whether an expression is the name of a separate statement that stands around it.
func (c *scope) isControlled(e api.Expr) bool {
	v, known := c.variable(e.Name)
	return known && v.role == isSeparate && e.Kind == api.ExCall && e.N == 0
}

// within looks at something in which names are known.
func (c *scope) within(names []string, look func()) {
	for _, name := range names {
		c.vars[name].isKnown = true
	}
	look()
	for _, name := range names {
		c.vars[name].isKnown = false
	}
}

// isSet tells whether something is set, or needs no setting.
func (c *scope) isSet(x slot) bool {
	return c.set[x] || !c.needed[x]
}

// isMade tells whether all attributes that a creation must set are set.
func (c *scope) isMade() bool {
	for _, name := range c.needs {
		if !c.isSet(attribute(name)) {
			return false
		}
	}
	return true
}

// assigned notes that a variable, Result or an attribute is set.
func (c *scope) assigned(name string) {
	x := slot{name: name}
	if made, is := c.names[name]; is {
		x = attribute(made)
	}
	c.set = merge(c.set, map[slot]bool{x: c.needed[x]}, either)
}

// left notes that nothing behind is come to; all is set there.
func (c *scope) left() {
	c.set = c.needed
}

func attribute(name string) slot {
	return slot{isAttribute: true, name: name}
}
