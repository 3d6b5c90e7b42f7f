package flat

import (
	"slices"

	"cosigner/api"
)

// The functions of this file tell whether two things are equal; lists without elements and none are.

func sameFlat(a, b api.Flat) bool {
	return a.Name == b.Name && a.Deferred == b.Deferred &&
		slices.EqualFunc(a.Members, b.Members, sameMember) && slices.EqualFunc(a.Invariant, b.Invariant, sameGroup)
}

func sameMember(a, b api.Member) bool {
	return a.Name == b.Name && a.Kind == b.Kind && slices.Equal(a.Seeds, b.Seeds) && a.Impl == b.Impl &&
		sameTypes(a, b) && slices.Equal(a.Clients, b.Clients) &&
		slices.EqualFunc(a.Pre, b.Pre, sameGroup) && slices.EqualFunc(a.Post, b.Post, sameGroup)
}

// sameTypes tells whether the types of two features are the same.
func sameTypes(a, b api.Member) bool {
	return sameVars(a.Args, b.Args) && sameType(a.Type, b.Type)
}

func sameVars(a, b []api.Var) bool {
	return slices.EqualFunc(a, b, func(v, w api.Var) bool { return v.Name == w.Name && sameType(v.Type, w.Type) })
}

func sameType(a, b api.Type) bool {
	return a.Kind == b.Kind && a.Name == b.Name && a.Void == b.Void && a.Sep == b.Sep && slices.EqualFunc(a.Args, b.Args, sameType)
}

func sameGroup(a, b api.Group) bool {
	return a.Class == b.Class && slices.EqualFunc(a.Clauses, b.Clauses, sameClause)
}

func sameClause(a, b api.Clause) bool {
	return a.Tag == b.Tag && sameExpr(a.Expr, b.Expr)
}

func sameExpr(a, b api.Expr) bool {
	return a.Kind == b.Kind && a.Name == b.Name && a.N == b.N && slices.EqualFunc(a.Kids, b.Kids, sameExpr)
}
