package heir

import (
	"iter"
	"slices"

	"cosigner/api"
)

// graph finds the parents of classes by their names.
type graph struct {
	links []api.Link     // those of one class stand side by side, in the order of its parents
	first map[string]int // where the links of each class begin that has any
}

// firsts returns where the first class of each name stands.
func firsts(l []api.Class) map[string]int {
	at := map[string]int{}
	for i, c := range l {
		if !has(at, c.Name) {
			at[c.Name] = i
		}
	}
	return at
}

// linksOf returns the links of all classes. The list need not be a valid system: of several classes with the same name only the first one counts, and a parent that is no class has no links of its own, so that it is in no ring.
func linksOf(l []api.Class) []api.Link {
	at := firsts(l)
	var links []api.Link
	for i, c := range l {
		if at[c.Name] != i {
			continue
		}
		for _, p := range c.Parents {
			links = append(links, api.Link{Class: c.Name, Parent: p.Name})
		}
	}
	return links
}

// graphOf returns the graph that has just these links.
func graphOf(links []api.Link) graph {
	g := graph{links, map[string]int{}}
	for i, x := range links {
		if !has(g.first, x.Class) {
			g.first[x.Class] = i
		}
	}
	return g
}

// parents yields the parents of a class, in their order. (For a class without links it looks at the first link of all, which is another class's.)
func (g graph) parents(c string) iter.Seq[string] {
	return func(yield func(string) bool) {
		for _, x := range g.links[g.first[c]:] {
			if x.Class != c || !yield(x.Parent) {
				return
			}
		}
	}
}

// chained tells whether each name after the first one is that of a parent of the class before it.
func (g graph) chained(names []string) bool {
	for i, name := range names[1:] {
		if !slices.Contains(g.links, api.Link{Class: names[i], Parent: name}) {
			return false
		}
	}
	return true
}
