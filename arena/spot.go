package arena

import "topiary/api"

// A spot is where a node is to stand: at a place of a parent's role; or, of the parent 0, as a root.
type spot struct {
	parent int
	role   string
	at     int
}

// named tells whether the role is a word, where there must be one.
func (s spot) named() bool { return s.parent == 0 || Word(s.role) }

// admits tells whether a branch of so many levels may stand at the spot, with so many nodes more in the model, and at which index among the parent's kids; or the first error.
func (s spot) admits(m api.Model, levels, more int) (int, api.Errno) {
	if s.parent != 0 && !has(m, s.parent) {
		return 0, api.ErrNoNode
	}
	among, ok := s.among(m)
	switch {
	case !ok:
		return 0, api.ErrPlace
	case depth(m, s.parent)+levels > api.MaxDepth:
		return 0, api.ErrDeep
	case len(m.Nodes)+more > api.MaxNodes || m.Next-1+more > api.MaxIDs:
		return 0, api.ErrFull
	}
	return among, api.OK
}

// among answers the index among the parent's kids to which the spot's place comes, if there is that place.
func (s spot) among(m api.Model) (int, bool) {
	if s.parent == 0 {
		return 0, s.role == "" && s.at == 0
	}
	kids := node(m, s.parent).Kids
	behind, places := len(kids), 0
	for i, kid := range kids {
		if node(m, kid).Role != s.role {
			continue
		}
		if places == s.at {
			return i, true
		}
		behind = i + 1
		places++
	}
	return behind, places == s.at
}

// put lets a node that stands nowhere stand at the spot.
func put(m api.Model, id int, s spot, among int) {
	n := node(m, id)
	n.Parent, n.Role = s.parent, s.role
	if s.parent == 0 {
		return
	}
	p := node(m, s.parent)
	kids := make([]int, len(p.Kids)+1)
	copy(kids, p.Kids[:among])
	kids[among] = id
	copy(kids[among+1:], p.Kids[among:])
	p.Kids = kids
}

// take takes a node from among its parent's kids.
func take(m api.Model, id int) {
	p := node(m, node(m, id).Parent)
	if p == nil {
		return
	}
	kids := make([]int, 0, len(p.Kids)-1)
	for _, kid := range p.Kids {
		if kid != id {
			kids = append(kids, kid)
		}
	}
	p.Kids = kids
}

// own answers the model in memory of its own.
func own(m api.Model) api.Model {
	nodes := make([]api.Node, len(m.Nodes))
	for i := range nodes {
		nodes[i] = ownNode(m.Nodes[i])
	}
	m.Nodes = nodes
	return m
}

func ownNode(n api.Node) api.Node {
	n.Props, n.Kids, n.Refs = ownList(n.Props), ownList(n.Kids), ownList(n.Refs)
	return n
}

func ownList[E any](l []E) []E {
	if len(l) == 0 {
		return nil
	}
	out := make([]E, len(l))
	copy(out, l)
	return out
}
