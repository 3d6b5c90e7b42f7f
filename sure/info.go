package sure

import (
	"slices"

	"cosigner/api"
)

// Nodes returns how many nodes a feature has.
func Nodes(l []api.Class, class, feature string) (int, api.Errno) {
	c, err := enterFeature(l, class, feature)
	if err != api.OK {
		return 0, err
	}
	return len(c.nodes), api.OK
}

// TypeOf returns the type of a node that is an expression.
func TypeOf(l []api.Class, class, feature string, at int) (api.Type, api.Errno) {
	n, _, err := enterNode(l, class, feature, at)
	switch {
	case err != api.OK:
		return api.Type{}, err
	case !n.isExpr:
		return api.Type{}, api.ErrNone
	}
	return copyType(n.typed), api.OK
}

// Set returns the names that need setting and are set before a node.
func Set(l []api.Class, class, feature string, at int) ([]string, api.Errno) {
	n, c, err := enterNode(l, class, feature, at)
	if err != api.OK {
		return nil, err
	}
	names := append(each(c.feature.Locals, varName), result)
	return keep(names, func(name string) bool { return n.set[slot{name: name}] }), api.OK
}

// Uses returns the features to which a feature refers.
func Uses(l []api.Class, class, feature string) ([]api.Seed, api.Errno) {
	c, err := enterFeature(l, class, feature)
	if err != api.OK {
		return nil, err
	}
	named := keep(each(c.nodes, nodeUse), func(s api.Seed) bool { return s != api.Seed{} })
	return unique(named), api.OK
}

// Names returns the variables of a feature.
func Names(l []api.Class, class, feature string) ([]api.Var, api.Errno) {
	c, err := enterFeature(l, class, feature)
	if err != api.OK {
		return nil, err
	}
	bound := keep(each(c.nodes, nodeBinds), func(v api.Var) bool { return v.Name != "" })
	return each(slices.Concat(c.feature.Args, c.feature.Locals, bound), copyVar), api.OK
}

func varName(v api.Var) string  { return v.Name }
func nodeUse(n node) api.Seed   { return n.use }
func nodeBinds(n node) api.Var  { return n.binds }
func copyVar(v api.Var) api.Var { return api.Var{Name: v.Name, Type: copyType(v.Type)} }
