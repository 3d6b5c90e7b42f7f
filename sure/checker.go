package sure

import (
	"iter"
	"slices"

	"cosigner/api"
	"cosigner/flat"
)

// nowhere is the node of what is wrong with a declaration.
const nowhere = -1

// unmet is a rule that is not met: at which node, and the error.
type unmet struct {
	at  int
	err api.Errno
}

// node is what has been found out of a node; its set is what is set ahead of it.
type node struct {
	isExpr bool
	typed  api.Type
	set    map[slot]bool
	use    api.Seed
	binds  api.Var
}

// checker looks at a feature, or an invariant, node by node.
type checker struct {
	scope
	nodes []node
	rules map[int]func(int, api.Stmt)
}

// finding is what comes of a look at a feature: what is known of its nodes, and the first rule that is not met.
type finding struct {
	checker *checker
	wrong   unmet
	isWrong bool
}

// look looks at a declaration.
func (s *system) look(at api.Seed) finding {
	return remembered(s.looks, at, func() finding {
		f, _ := s.declaration(at)
		return s.lookAt(s.classes[at.Class], f, creation{}, (*checker).declared)
	})
}

// lookAt looks at a feature of a class in some way.
func (s *system) lookAt(class api.Class, f api.Feature, k creation, how func(*checker)) finding {
	c := s.checkerOf(class, f, k)
	wrong, is := attempt(func() { how(c) })
	return finding{c, wrong, is}
}

func (s *system) checkerOf(class api.Class, f api.Feature, k creation) *checker {
	c := &checker{scope: scope{system: s, creation: k, class: class, feature: f, vars: map[string]*variable{}, needed: map[slot]bool{}}}
	c.rules = map[int]func(int, api.Stmt){
		api.StAssign: c.assign,
		api.StCall:   c.statementCall,
		api.StMake:   c.make,
		api.StIf:     c.branch,
		api.StLoop:   c.loop,
		api.StCheck:  c.check,
		api.StSep:    c.separate,
		api.StRetry:  c.retry,
		api.StRaise:  c.raise,
		api.StPut:    c.put,
	}
	for _, v := range append(slices.Clone(f.Locals), api.Var{Name: result, Type: f.Type}) {
		if needsSetting(v.Type) {
			c.needed[slot{name: v.Name}] = true
		}
	}
	for _, name := range k.needs {
		c.needed[attribute(name)] = true
	}
	return c
}

// attempt looks at something, and returns the first rule that is not met, and whether there is one.
func attempt(look func()) (wrong unmet, is bool) {
	defer func() {
		if x := recover(); x != nil {
			wrong, is = x.(unmet), true
		}
	}()
	look()
	return unmet{}, false
}

func demand(is bool, at int, err api.Errno) {
	if !is {
		panic(unmet{at, err})
	}
}

// begin notes a node.
func (c *checker) begin(isExpr bool) int {
	c.nodes = append(c.nodes, node{isExpr: isExpr, set: c.set})
	return len(c.nodes) - 1
}

// declared looks at a declared feature.
func (c *checker) declared() {
	c.header()
	c.inside()
}

// header looks at what a feature is besides its nodes. (That an attribute has a type is seen to by package flat.)
func (c *checker) header() {
	f := c.feature
	demand(hasFeatureForm(f), nowhere, api.ErrForm)
	demand(max(len(f.Args), len(f.Locals)) <= api.MaxVars && isWithin(featureNodes(f)), nowhere, api.ErrLimit)
	for _, v := range f.Args {
		c.declare(v, isArgument)
	}
	for _, v := range f.Locals {
		c.declare(v, isLocal)
	}
	c.demandRight(f.Type)
	for t := range c.inherited(f.Name) {
		demand(t.Kind == api.TyNone || c.isConforming(c.class.Name, f.Type, t), nowhere, api.ErrType)
	}
}

func (c *checker) demandRight(t api.Type) {
	err := c.rightError(c.class.Name, t)
	demand(err == api.OK, nowhere, err)
}

// declare notes an argument or a local.
func (c *checker) declare(v api.Var, role int) {
	c.name(nowhere, variable{Var: v, role: role, isKnown: true})
	c.demandRight(v.Type)
	demand(v.Type.Kind != api.TyNone, nowhere, api.ErrType)
}

// name notes a variable, which must have a name of its own.
func (c *checker) name(at int, v variable) {
	_, isMember := c.member(v.Name)
	demand(isName(v.Name), at, api.ErrName)
	demand(!has(c.vars, v.Name) && !isMember, at, api.ErrTwice)
	c.vars[v.Name] = &v
}

// bind notes a variable that a node binds.
func (c *checker) bind(at int, v api.Var, role int) {
	c.name(at, variable{Var: v, role: role})
	c.nodes[at].binds = v
}

// isName tells whether something may have a small name, as features have it.
func isName(name string) bool {
	err, _ := flat.Check([]api.Class{{Name: "A", Features: []api.Feature{{Name: name, Kind: api.FeDeferred}}}})
	return err == api.OK
}

// inherited yields the types of the features that are inherited under a name.
func (c *checker) inherited(name string) iter.Seq[api.Type] {
	return func(yield func(api.Type) bool) {
		for _, p := range c.class.Parents {
			renamed := map[string]string{}
			for _, r := range p.Rename {
				renamed[r.From] = r.To
			}
			for _, m := range c.flats[p.Name].Members {
				to, is := renamed[m.Name]
				if !is {
					to = m.Name
				}
				if to == name && !yield(c.asInherited(p, m.Type)) {
					return
				}
			}
		}
	}
}

// inside looks at the nodes of a feature. Ensure is behind Body, so that what is set there is set; whether Result is, is asked last.
func (c *checker) inside() {
	f := c.feature
	c.enter(inRequire, nil)
	c.clauses(f.Require)
	c.enter(inBody, nil)
	c.stmts(f.Body)
	end := c.set
	c.enter(inEnsure, end)
	c.assigned(result)
	c.clauses(f.Ensure)
	c.enter(inRescue, nil)
	c.stmts(f.Rescue)
	c.set = end
	demand(f.Kind != api.FeRoutine || c.isSet(slot{name: result}) && c.isMade(), nowhere, api.ErrVoid)
}

// enter begins with a part of a feature, ahead of which some names are set.
func (c *checker) enter(part int, set map[slot]bool) {
	c.part, c.set = part, set
}

// invariant looks at the invariant of the class.
func (c *checker) invariant() {
	demand(isWithin(clauseNodes(c.class.Invariant)), nowhere, api.ErrLimit)
	c.enter(inRequire, nil)
	c.clauses(c.class.Invariant)
}
