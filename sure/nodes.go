package sure

import (
	"iter"

	"cosigner/api"
)

// part is a node, and how deep it stands; of a statement there is no expression.
type part struct {
	depth int
	expr  api.Expr
}

// isWithin tells whether nodes are not too many, and not nested too deep.
func isWithin(nodes iter.Seq[part]) bool {
	n := 0
	for p := range nodes {
		n++
		if n > api.MaxParts || p.depth > api.MaxNest {
			return false
		}
	}
	return true
}

// featureNodes yields the nodes of a feature.
func featureNodes(f api.Feature) iter.Seq[part] {
	return func(yield func(part) bool) {
		_ = inClauses(f.Require, 1, yield) && inStmts(f.Body, 1, yield) && inClauses(f.Ensure, 1, yield) && inStmts(f.Rescue, 1, yield)
	}
}

// clauseNodes yields the nodes of clauses.
func clauseNodes(l []api.Clause) iter.Seq[part] {
	return func(yield func(part) bool) { inClauses(l, 1, yield) }
}

// exprNodes yields the nodes of an expression.
func exprNodes(e api.Expr) iter.Seq[part] {
	return func(yield func(part) bool) { inExpr(e, 1, yield) }
}

// The following functions yield nodes, of which the outermost stand so deep, and tell whether more are wanted.

func inExpr(e api.Expr, depth int, yield func(part) bool) bool {
	return yield(part{depth, e}) && inExprs(e.Kids, depth+1, yield)
}

func inExprs(l []api.Expr, depth int, yield func(part) bool) bool {
	return all(l, func(e api.Expr) bool { return inExpr(e, depth, yield) })
}

func inClauses(l []api.Clause, depth int, yield func(part) bool) bool {
	return all(l, func(x api.Clause) bool { return inExpr(x.Expr, depth, yield) })
}

func inStmts(l []api.Stmt, depth int, yield func(part) bool) bool {
	return all(l, func(s api.Stmt) bool { return inStmt(s, depth, yield) })
}

func inStmt(s api.Stmt, depth int, yield func(part) bool) bool {
	depth++
	exprs := func() bool { return inExprs(s.Exprs, depth, yield) }
	tags := func() bool { return inClauses(s.Tags, depth, yield) }
	init := func() bool { return inStmts(s.Init, depth, yield) }
	body := func() bool { return inStmts(s.Body, depth, yield) }
	other := func() bool { return inStmts(s.Else, depth, yield) }
	order := []func() bool{exprs, tags, init, body, other}
	switch s.Kind {
	case api.StLoop:
		order = []func() bool{init, tags, exprs, body}
	case api.StSep:
		order = []func() bool{exprs, body}
	}
	return yield(part{depth: depth - 1}) && all(order, func(more func() bool) bool { return more() })
}
