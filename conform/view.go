package conform

import (
	"cmp"
	"slices"
	"sort"

	"topiary/api"
	"topiary/meta"
)

// A view is a model that is right, and the table that it is looked at by.
type view struct {
	table *meta.Table
	model api.Model
}

// find answers the node with that ID, or nil.
func (v view) find(id int) *api.Node {
	nodes := v.model.Nodes
	at, ok := sort.Find(len(nodes), func(i int) int { return cmp.Compare(id, nodes[i].ID) })
	if !ok {
		return nil
	}
	return &nodes[at]
}

// near answers which nodes are near what was touched; order is the document order.
func (v view) near(order, touched []int) map[int]struct{} {
	near := make(map[int]struct{}, len(touched))
	for _, id := range touched {
		near[id] = struct{}{}
	}
	beside := v.beside(near)
	// An ID that went has nobody below it; nor has 0, which is what a root has for its parent.
	for _, id := range touched {
		if v.find(id) == nil {
			delete(near, id)
		}
	}
	for _, id := range order {
		if _, ok := near[v.find(id).Parent]; ok {
			near[id] = struct{}{}
		}
	}
	for _, id := range beside {
		near[id] = struct{}{}
	}
	return near
}

// beside answers the parents of what was touched, and all that have a reference to it.
func (v view) beside(touched map[int]struct{}) []int {
	var out []int
	for i := range v.model.Nodes {
		n := &v.model.Nodes[i]
		if _, ok := touched[n.ID]; ok && n.Parent != 0 {
			out = append(out, n.Parent)
		}
		if slices.ContainsFunc(n.Refs, func(r api.Ref) bool { _, ok := touched[r.Target]; return ok }) {
			out = append(out, n.ID)
		}
	}
	return out
}
