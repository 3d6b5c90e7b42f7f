package read

import "cosigner/api"

// Depth returns how deep an expression is nested.
func Depth(e api.Expr) int {
	return 1 + deepest(e.Kids, Depth)
}

// deepest returns the greatest depth of some parts, 0 if there are none.
func deepest[T any](l []T, depth func(T) int) int {
	most := 0
	for _, x := range l {
		most = max(most, depth(x))
	}
	return most
}

func typeDepth(t api.Type) int {
	return 1 + deepest(t.Args, typeDepth)
}

func varDepth(v api.Var) int {
	return typeDepth(v.Type)
}

// clauseDepth is that of the expression: a clause is no part that counts by itself.
func clauseDepth(c api.Clause) int {
	return Depth(c.Expr)
}

func stmtDepth(s api.Stmt) int {
	return 1 + max(
		deepest(s.Exprs, Depth), deepest(s.Tags, clauseDepth),
		deepest(s.Init, stmtDepth), deepest(s.Body, stmtDepth), deepest(s.Else, stmtDepth),
	)
}

func parentDepth(a api.Parent) int {
	return deepest(a.Args, typeDepth)
}

func featureDepth(f api.Feature) int {
	return max(
		deepest(f.Args, varDepth), typeDepth(f.Type), deepest(f.Locals, varDepth),
		deepest(f.Require, clauseDepth), deepest(f.Ensure, clauseDepth),
		deepest(f.Body, stmtDepth), deepest(f.Rescue, stmtDepth),
	)
}

func classDepth(c api.Class) int {
	return max(deepest(c.Parents, parentDepth), deepest(c.Features, featureDepth), deepest(c.Invariant, clauseDepth))
}
