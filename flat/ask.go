package flat

import (
	"slices"

	"cosigner/api"
	"cosigner/heir"
)

// Origins returns where a feature of a class comes from.
func Origins(l []api.Class, class, name string) ([]api.Origin, api.Errno) {
	f, _, err := memberOf(l, class, name)
	if err != api.OK {
		return nil, err
	}
	var origins []api.Origin
	if has(f.own, name) {
		origins = append(origins, api.Origin{Name: name})
	}
	return append(origins, each(f.comes[name], originOf)...), api.OK
}

// Declared returns the declaration in which the body of a feature stands, and its class.
func Declared(l []api.Class, class, name string) (api.Feature, string, api.Errno) {
	_, m, err := memberOf(l, class, name)
	if err != api.OK {
		return api.Feature{}, "", err
	}
	features := byName(l)[m.Impl.Class].Features
	i := slices.Index(each(features, featureName), m.Impl.Name)
	return copyFeature(features[i]), m.Impl.Class, api.OK
}

// Open tells whether a class is a client to which a feature is open.
func Open(l []api.Class, class, name, client string) (bool, api.Errno) {
	_, m, err := memberOf(l, class, name)
	if err != api.OK {
		return false, err
	}
	if slices.Contains(m.Clients, "ANY") {
		return true, api.OK
	}
	above, err := heir.Above(l, client)
	if err != api.OK {
		return false, err
	}
	return slices.ContainsFunc(above, func(name string) bool { return slices.Contains(m.Clients, name) }), api.OK
}

// Deferred returns the names of the deferred features of a class.
func Deferred(l []api.Class, class string) ([]string, api.Errno) {
	forms, err := enter(l, class)
	if err != api.OK {
		return nil, err
	}
	return forms[class].deferred(), api.OK
}

func (f *form) deferred() []string {
	return keep(f.names, func(name string) bool { return f.members[name].Kind == api.FeDeferred })
}
