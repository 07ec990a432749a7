package arena

import (
	"slices"
	"strings"

	"topiary/api"
)

// Check: P2.1.
func Check(m api.Model) api.Errno {
	if !numbered(m) || !spelt(m) {
		return api.ErrModel
	}
	above, ok := joined(m)
	if !ok || !rooted(above) {
		return api.ErrModel
	}
	return api.OK
}

// Word: P2.1.
func Word(s string) bool {
	s = strings.TrimPrefix(s, "?")
	if len(s) == 0 || len(s) > api.MaxName || !letter(s[0]) {
		return false
	}
	for i := 1; i < len(s); i++ {
		if !letter(s[i]) && (s[i] < '0' || s[i] > '9') && s[i] != '_' {
			return false
		}
	}
	return true
}

// Same: P2.1.
func Same(a, b api.Model) bool {
	return a.Next == b.Next && slices.EqualFunc(a.Nodes, b.Nodes, sameNode)
}

func sameNode(a, b api.Node) bool {
	return a.ID == b.ID && a.Concept == b.Concept && a.Parent == b.Parent && a.Role == b.Role &&
		slices.Equal(a.Props, b.Props) && slices.Equal(a.Kids, b.Kids) && slices.Equal(a.Refs, b.Refs)
}

func letter(b byte) bool {
	return 'A' <= b && b <= 'Z' || 'a' <= b && b <= 'z'
}

// numbered tells whether the numbers of the nodes are right: the first condition.
func numbered(m api.Model) bool {
	if m.Next < 1 || m.Next > api.MaxIDs+1 || len(m.Nodes) > api.MaxNodes {
		return false
	}
	last := 0
	for i := range m.Nodes {
		id := m.Nodes[i].ID
		if id <= last || id >= m.Next {
			return false
		}
		last = id
	}
	return true
}

// spelt tells whether what each node has by itself is right: the second condition.
func spelt(m api.Model) bool {
	for i := range m.Nodes {
		n := &m.Nodes[i]
		if !Word(n.Concept) || !roleSpelt(n) || !propsSpelt(n.Props) || !refsSpelt(n.Refs, m.Next) {
			return false
		}
	}
	return true
}

func roleSpelt(n *api.Node) bool {
	if n.Parent == 0 {
		return n.Role == ""
	}
	return Word(n.Role)
}

func propsSpelt(l []api.Prop) bool {
	for i, p := range l {
		if !Word(p.Name) || len(p.Value) > api.MaxText || i > 0 && p.Name <= l[i-1].Name {
			return false
		}
	}
	return true
}

func refsSpelt(l []api.Ref, next int) bool {
	for i, r := range l {
		if !Word(r.Role) || r.Target < 1 || r.Target >= next || i > 0 && r.Role <= l[i-1].Role {
			return false
		}
	}
	return true
}

// none stands where a root has no node above it.
const none = -1

// joined tells whether parents and kids agree, the third condition; and, by the nodes' indices, the index of each one's parent.
func joined(m api.Model) ([]int, bool) {
	above := make([]int, len(m.Nodes))
	for i := range above {
		above[i] = none
	}
	for i := range m.Nodes {
		for _, kid := range m.Nodes[i].Kids {
			k, ok := index(m, kid)
			if !ok || m.Nodes[k].Parent != m.Nodes[i].ID || above[k] != none {
				return nil, false
			}
			above[k] = i
		}
	}
	for i := range m.Nodes {
		if above[i] == none && m.Nodes[i].Parent != 0 {
			return nil, false
		}
	}
	return above, true
}

// rooted tells whether each node is below a root, and none too deep: the fourth condition.
func rooted(above []int) bool {
	deep := make([]int, len(above))
	way := make([]int, 0, api.MaxDepth)
nodes:
	for i := range above {
		way = way[:0]
		for at := i; at != none; at = above[at] {
			if deep[at] > 0 {
				if !count(deep, way, deep[at]) {
					return false
				}
				continue nodes
			}
			// Nodes that stand in a ring are as many deep as one likes, so they end here too.
			if len(way) == api.MaxDepth {
				return false
			}
			way = append(way, at)
		}
		count(deep, way, 0)
	}
	return true
}

// count writes down the depths of the nodes on a way up, the last of which stands below one of that depth, and tells whether none is too deep.
func count(deep, way []int, from int) bool {
	for i, at := range way {
		deep[at] = from + len(way) - i
	}
	return from+len(way) <= api.MaxDepth
}
