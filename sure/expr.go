package sure

import "cosigner/api"

// expr looks at an expression, and returns its type. A call of what has no result is none.
func (c *checker) expr(e api.Expr) api.Type {
	at, t := c.called(e)
	demand(t.Kind != api.TyNone || e.Kind != api.ExCall, at, api.ErrType)
	return t
}

// called looks at an expression that may be a call of what has no result; it returns its node and its type.
func (c *checker) called(e api.Expr) (int, api.Type) {
	at := c.begin(true)
	demand(hasExprForm(e), at, api.ErrForm)
	t := c.typeOf(at, e)
	c.nodes[at].typed = t
	return at, t
}

func (c *checker) typeOf(at int, e api.Expr) api.Type {
	switch e.Kind {
	case api.ExInt:
		demand(e.N >= 0 && e.N <= api.MaxNum, at, api.ErrArg)
		return api.Type{Kind: api.TyInt}
	case api.ExBool:
		return api.Type{Kind: api.TyBool}
	case api.ExCurrent:
		demand(c.isMade(), at, api.ErrVoid)
		return current(c.class)
	case api.ExResult:
		return c.result(at)
	case api.ExCall:
		return c.call(at, e)
	case api.ExBin:
		return c.binary(at, e)
	case api.ExUn:
		return c.unary(at, e)
	case api.ExOld:
		return c.old(at, e)
	case api.ExAttached:
		return c.attached(at, e)
	}
	return api.Type{} // Void
}

func (c *checker) result(at int) api.Type {
	isThere := c.part != inRequire && !c.isOld && c.feature.Type.Kind != api.TyNone
	demand(isThere, at, api.ErrName)
	demand(c.isSet(slot{name: result}), at, api.ErrVoid)
	return c.feature.Type
}

func (c *checker) binary(at int, e api.Expr) api.Type {
	left, right := c.expr(e.Kids[0]), api.Type{}
	var known []string
	if e.Name == "and" || e.Name == "implies" {
		known = boundIf(e.Kids[0])
	}
	c.within(known, func() { right = c.expr(e.Kids[1]) })
	are := func(kind int) bool { return left.Kind == kind && right.Kind == kind }
	switch e.Name {
	case "+", "-", "*", "//", "%":
		demand(are(api.TyInt), at, api.ErrType)
		return api.Type{Kind: api.TyInt}
	case "<", "<=", ">", ">=":
		demand(are(api.TyInt), at, api.ErrType)
	case "and", "or", "implies":
		demand(are(api.TyBool), at, api.ErrType)
	case "=", "/=":
		demand(c.isComparable(left, right), at, api.ErrType)
	default:
		demand(false, at, api.ErrForm)
	}
	return api.Type{Kind: api.TyBool}
}

// isComparable tells whether values of two types may be the same.
func (c *checker) isComparable(a, b api.Type) bool {
	if !isObject(a) && !isObject(b) {
		return a.Kind == b.Kind
	}
	a, b = loose(a), loose(b)
	return c.isConforming(c.class.Name, a, b) || c.isConforming(c.class.Name, b, a)
}

// loose returns a type, detachable, and separate if it is of a class, so that of two types their classes alone count.
func loose(t api.Type) api.Type {
	if isObject(t) {
		t.Void, t.Sep = true, t.Kind == api.TyClass
	}
	return t
}

func (c *checker) unary(at int, e api.Expr) api.Type {
	t := c.expr(e.Kids[0])
	switch e.Name {
	case "not":
		demand(t.Kind == api.TyBool, at, api.ErrType)
	case "-":
		demand(t.Kind == api.TyInt, at, api.ErrType)
	default:
		demand(false, at, api.ErrForm)
	}
	return t
}

func (c *checker) old(at int, e api.Expr) api.Type {
	outer := c.isOld
	c.isOld = true
	t := c.expr(e.Kids[0])
	c.isOld = outer
	demand(c.part == inEnsure && !outer, at, api.ErrForm)
	return t
}

func (c *checker) attached(at int, e api.Expr) api.Type {
	t := c.expr(e.Kids[0])
	c.bind(at, api.Var{Name: e.Name, Type: attached(t)}, isAttached)
	demand(isObject(t), at, api.ErrType)
	return api.Type{Kind: api.TyBool}
}

// boundIf returns the names that an expression binds if it is True.
func boundIf(e api.Expr) []string {
	switch {
	case e.Kind == api.ExAttached:
		return []string{e.Name}
	case e.Kind == api.ExBin && e.Name == "and":
		return append(boundIf(e.Kids[0]), boundIf(e.Kids[1])...)
	}
	return nil
}
