package machine

import (
	"cmp"
	"sort"

	"topiary/api"
	"topiary/meta"
)

// A place is a node's role.
type place struct {
	node int
	role string
}

// A world is what code runs over: a table, and the nodes of a model that is right.
type world struct {
	table *meta.Table
	nodes []api.Node
	kids  map[place][]int // those that were asked for: without a step thousands may be, again and again
}

// seek answers the element with that key, of a list by rising keys; or nil.
func seek[E any, K cmp.Ordered](l []E, key K, of func(e *E) K) *E {
	at, ok := sort.Find(len(l), func(i int) int { return cmp.Compare(key, of(&l[i])) })
	if !ok {
		return nil
	}
	return &l[at]
}

// find answers the node with that ID, or nil.
func (w *world) find(id int) *api.Node {
	return seek(w.nodes, id, func(n *api.Node) int { return n.ID })
}

// inRole answers a node's kids in a role, in order.
func (w *world) inRole(at *api.Node, role string) []int {
	p := place{at.ID, role}
	kids, known := w.kids[p]
	if !known {
		for _, id := range at.Kids {
			if w.find(id).Role == role {
				kids = append(kids, id)
			}
		}
		w.kids[p] = kids
	}
	return kids
}
