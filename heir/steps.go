package heir

import (
	"iter"
	"slices"
)

// step is a class to which a search has come, the step from which it came there, and how many steps there are ahead of it.
type step struct {
	class string
	from  *step
	ahead int
}

// steps yields the ancestors of a class, those with shorter ways first. As the parents of each are tried by their names, of several shortest ways the first one is found.
func (g graph) steps(c string) iter.Seq[*step] {
	return func(yield func(*step) bool) {
		seen := map[string]bool{}
		for queue := []*step{{class: c}}; len(queue) > 0; queue = queue[1:] {
			x := queue[0]
			if seen[x.class] {
				continue
			}
			seen[x.class] = true
			if !yield(x) {
				return
			}
			for _, p := range slices.Sorted(g.parents(x.class)) {
				queue = append(queue, &step{p, x, x.ahead + 1})
			}
		}
	}
}

// way returns the names of the way up to this step.
func (x *step) way() []string {
	var out []string
	for ; x != nil; x = x.from {
		out = append(out, x.class)
	}
	slices.Reverse(out)
	return out
}
