package heir

// The colours that classes have while their ancestors are visited.
const (
	unseen = iota
	begun
	done
)

// walk goes through classes, each behind its parents.
type walk struct {
	graph   graph
	colours map[string]int
	order   []string // the classes that are done
	ring    bool     // whether it came to a class that it had begun with and not done
}

func (w *walk) visit(c string) {
	switch w.colours[c] {
	case begun:
		w.ring = true
		return
	case done:
		return
	}
	w.colours[c] = begun
	for p := range w.graph.parents(c) {
		w.visit(p)
	}
	w.colours[c] = done
	w.order = append(w.order, c)
}

// visited returns a walk that has gone through these classes and all of their ancestors.
func (g graph) visited(classes []string) *walk {
	w := &walk{graph: g, colours: map[string]int{}}
	for _, c := range classes {
		w.visit(c)
	}
	return w
}

// above returns the ancestors of a class, each behind its own ones.
func (g graph) above(c string) []string {
	return g.visited([]string{c}).order
}
