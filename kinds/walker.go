package kinds

import (
	"iter"

	"topiary/api"
)

// A walker goes through an expression's nodes, each behind its kids.
type walker struct {
	nodes []api.ENode
	bound map[string]int // by how many nodes a variable is bound here; of one that is not bound there is none
	yield func(at int, free bool) bool
}

// behindKids goes through the nodes of an expression that is right, each behind its kids, and tells of each whether it is a variable that is not bound at it.
func behindKids(nodes []api.ENode) iter.Seq2[int, bool] {
	return func(yield func(at int, free bool) bool) {
		w := walker{nodes: nodes, bound: map[string]int{}, yield: yield}
		w.walk(0)
	}
}

// walk goes through a node and all below it, and tells whether to go on.
func (w *walker) walk(at int) bool {
	n := w.nodes[at]
	for i, kid := range n.Kids {
		if !w.walkKid(kid, n.Text, i == 1 && binds(n.Kind)) {
			return false
		}
	}
	return w.yield(at, n.Kind == api.EVar && w.bound[n.Text] == 0)
}

// walkKid goes through a kid, at which that variable is bound or not.
func (w *walker) walkKid(kid int, variable string, bound bool) bool {
	if bound {
		w.bound[variable]++
		defer w.loose(variable)
	}
	return w.walk(kid)
}

// loose takes back one binding: the variable may still be bound by a node further out.
func (w *walker) loose(variable string) {
	w.bound[variable]--
	if w.bound[variable] == 0 {
		delete(w.bound, variable)
	}
}

// binds tells whether nodes of a Kind bind a variable in their second kids.
func binds(kind int) bool {
	switch kind {
	case api.EAny, api.EEvery, api.EOnly, api.ESum:
		return true
	}
	return false
}
