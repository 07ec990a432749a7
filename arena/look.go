package arena

import (
	"cmp"
	"slices"
	"sort"

	"topiary/api"
)

// Find: P2.8.
func Find(m api.Model, id int) (api.Node, bool) {
	if Check(m) != api.OK || !has(m, id) {
		return api.Node{}, false
	}
	return ownNode(*node(m, id)), true
}

// Order: P2.8.
func Order(m api.Model) []int {
	if Check(m) != api.OK {
		return nil
	}
	var ids []int
	over(m, roots(m), func(n *api.Node, deep int) { ids = append(ids, n.ID) })
	return ids
}

// Below: P2.8.
func Below(m api.Model, id int) []int {
	if Check(m) != api.OK || !has(m, id) {
		return nil
	}
	var ids []int
	over(m, node(m, id).Kids, func(n *api.Node, deep int) { ids = append(ids, n.ID) })
	return ids
}

// Kids: P2.8.
func Kids(m api.Model, id int, role string) []int {
	if Check(m) != api.OK || !has(m, id) {
		return nil
	}
	var ids []int
	for _, kid := range node(m, id).Kids {
		if node(m, kid).Role == role {
			ids = append(ids, kid)
		}
	}
	return ids
}

// Depth: P2.8.
func Depth(m api.Model, id int) int {
	if Check(m) != api.OK || !has(m, id) {
		return 0
	}
	return depth(m, id)
}

// Users: P2.8.
func Users(m api.Model, id int) []int {
	if Check(m) != api.OK {
		return nil
	}
	var ids []int
	over(m, roots(m), func(n *api.Node, deep int) {
		if slices.ContainsFunc(n.Refs, func(r api.Ref) bool { return r.Target == id }) {
			ids = append(ids, n.ID)
		}
	})
	return ids
}

// index answers where among the nodes the one with that ID is.
func index(m api.Model, id int) (int, bool) {
	// Where no ID below it is missing, the ID tells the place, and nothing need be searched.
	if id > 0 && id <= len(m.Nodes) && m.Nodes[id-1].ID == id {
		return id - 1, true
	}
	return sort.Find(len(m.Nodes), func(i int) int { return cmp.Compare(id, m.Nodes[i].ID) })
}

// node answers the node with that ID, in its place, or nil.
func node(m api.Model, id int) *api.Node {
	if i, ok := index(m, id); ok {
		return &m.Nodes[i]
	}
	return nil
}

func has(m api.Model, id int) bool {
	_, ok := index(m, id)
	return ok
}

func roots(m api.Model) []int {
	var ids []int
	for i := range m.Nodes {
		if m.Nodes[i].Parent == 0 {
			ids = append(ids, m.Nodes[i].ID)
		}
	}
	return ids
}

// over visits these nodes, each with all that is below it, in document order, and tells of each how deep it stands, counted from these on.
func over(m api.Model, ids []int, visit func(n *api.Node, deep int)) {
	var down func(ids []int, deep int)
	down = func(ids []int, deep int) {
		for _, id := range ids {
			n := node(m, id)
			visit(n, deep)
			down(n.Kids, deep+1)
		}
	}
	down(ids, 1)
}

// branch lists the node and all below it, in document order.
func branch(m api.Model, id int) []int {
	var ids []int
	over(m, []int{id}, func(n *api.Node, deep int) { ids = append(ids, n.ID) })
	return ids
}

// levels answers how many nodes deep the branch is, counted from its first one on.
func levels(m api.Model, id int) int {
	most := 0
	over(m, []int{id}, func(n *api.Node, deep int) { most = max(most, deep) })
	return most
}

// depth answers how many nodes deep the node stands; where there is none, above the roots, 0.
func depth(m api.Model, id int) int {
	d := 0
	for ; id != 0; id = node(m, id).Parent {
		d++
	}
	return d
}
