package denote

import (
	"cmp"
	"sort"

	"topiary/api"
	"topiary/meta"
)

// A place is a node's role.
type place struct {
	node int
	role string
}

// A world is what expressions are evaluated over: a table, and the nodes of a model that is right.
type world struct {
	table *meta.Table
	nodes []api.Node
	kids  map[place][]int // those that were asked for: one step may ask for thousands, and be taken often
}

// find answers the node with that ID, or nil.
func (w *world) find(id int) *api.Node {
	at, ok := sort.Find(len(w.nodes), func(i int) int { return cmp.Compare(id, w.nodes[i].ID) })
	if !ok {
		return nil
	}
	return &w.nodes[at]
}

// asNode answers the node that a value is; it must be one of the model.
func (w *world) asNode(v api.Value) *api.Node {
	n := w.find(must(v, api.VNode).Node)
	if n == nil {
		fail(api.ErrNone)
	}
	return n
}

// kidsIn answers a node's kids in a role, in order.
func (w *world) kidsIn(n *api.Node, role string) []int {
	at := place{n.ID, role}
	if l, ok := w.kids[at]; ok {
		return l
	}
	var l []int
	for _, id := range n.Kids {
		if w.find(id).Role == role {
			l = append(l, id)
		}
	}
	w.kids[at] = l
	return l
}

// target answers the node to which a node's reference of a role is; none, if that is not in the model.
func (w *world) target(n *api.Node, role string) int {
	at, ok := sort.Find(len(n.Refs), func(i int) int { return cmp.Compare(role, n.Refs[i].Role) })
	if !ok || w.find(n.Refs[at].Target) == nil {
		return 0
	}
	return n.Refs[at].Target
}

// prop answers a node's property of that name; the empty text, if it has none.
func prop(n *api.Node, name string) string {
	at, ok := sort.Find(len(n.Props), func(i int) int { return cmp.Compare(name, n.Props[i].Name) })
	if !ok {
		return ""
	}
	return n.Props[at].Value
}
