package sure

import (
	"slices"

	"cosigner/api"
)

func (c *checker) stmts(l []api.Stmt) {
	for _, s := range l {
		at := c.begin(false)
		demand(hasStmtForm(s), at, api.ErrForm)
		c.rules[s.Kind](at, s)
	}
}

// clauses looks at clauses; their errors have the nodes of their expressions.
func (c *checker) clauses(l []api.Clause) {
	for _, x := range l {
		at := len(c.nodes)
		demand(isName(x.Tag), at, api.ErrName)
		c.expects(at, x.Expr, api.TyBool)
	}
}

// expects looks at an expression whose type must be of one of the kinds.
func (c *checker) expects(at int, e api.Expr, kinds ...int) {
	t := c.expr(e)
	demand(slices.Contains(kinds, t.Kind), at, api.ErrType)
}

func (c *checker) assign(at int, s api.Stmt) {
	t := c.expr(s.Exprs[0])
	to := c.assignable(at, s.Name)
	demand(c.isConforming(c.class.Name, t, to), at, api.ErrType)
	c.assigned(s.Name)
}

// branch looks at an if; behind it is set what either way sets.
func (c *checker) branch(at int, s api.Stmt) {
	c.expects(at, s.Exprs[0], api.TyBool)
	ahead := c.set
	c.within(boundIf(s.Exprs[0]), func() { c.stmts(s.Body) })
	then := c.set
	c.set = ahead
	c.stmts(s.Else)
	c.set = merge(then, c.set, both)
}

// loop looks at a loop; its body may not be come to.
func (c *checker) loop(at int, s api.Stmt) {
	c.stmts(s.Init)
	ahead := c.set
	c.check(at, s)
	c.expects(at, s.Exprs[0], api.TyBool)
	if len(s.Exprs) == 2 {
		c.expects(at, s.Exprs[1], api.TyInt)
	}
	c.stmts(s.Body)
	c.set = ahead
}

func (c *checker) check(_ int, s api.Stmt) {
	c.isTags = true
	c.clauses(s.Tags)
	c.isTags = false
}

// separate looks at a separate statement.
func (c *checker) separate(at int, s api.Stmt) {
	t := c.expr(s.Exprs[0])
	demand(t.Kind == api.TyClass && t.Sep, at, api.ErrType)
	demand(!t.Void, at, api.ErrVoid)
	c.bind(at, api.Var{Name: s.Name, Type: t}, isSeparate)
	c.within([]string{s.Name}, func() {
		if len(s.Exprs) == 2 {
			c.expects(at, s.Exprs[1], api.TyBool)
		}
		c.stmts(s.Body)
	})
}

func (c *checker) retry(at int, _ api.Stmt) {
	demand(c.part == inRescue, at, api.ErrState)
	c.left()
}

func (c *checker) raise(at int, s api.Stmt) {
	demand(s.N >= 0 && s.N <= 99, at, api.ErrArg)
	c.left()
}

func (c *checker) put(at int, s api.Stmt) {
	c.expects(at, s.Exprs[0], api.TyInt, api.TyBool)
}
