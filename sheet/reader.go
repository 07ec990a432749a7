package sheet

import (
	"cmp"
	"slices"
	"strings"

	"topiary/api"
	"topiary/arena"
	"topiary/names"
)

// A reader has read the first lines of a model's text, all of them right.
type reader struct {
	next  int              // 0 ahead of the first line
	nodes []api.Node       // in document order
	told  map[int]struct{} // the nodes' IDs
	root  int              // the last root's ID
	way   []int            // the indices of the nodes from the last root down to the last node: so many as this is deep
}

// line reads a line, if it is right.
func (r *reader) line(s string) bool {
	if r.next == 0 {
		return r.first(s)
	}
	rest := strings.TrimLeft(s, " ")
	blanks := len(s) - len(rest)
	if prop, is := strings.CutPrefix(rest, propBy); is {
		return r.prop(blanks, prop)
	}
	if ref, is := strings.CutPrefix(rest, refBy); is {
		return r.ref(blanks, ref)
	}
	return r.node(blanks, rest)
}

func (r *reader) first(s string) bool {
	rest, is := strings.CutPrefix(s, opening)
	next, ok := number(rest, api.MaxIDs+1)
	if !is || !ok {
		return false
	}
	r.next = next
	return true
}

// node reads a node's line, from behind its blanks on.
func (r *reader) node(blanks int, s string) bool {
	if blanks > len(r.way) || blanks >= api.MaxDepth || len(r.nodes) >= api.MaxNodes {
		return false
	}
	first, s, _ := strings.Cut(s, " ")
	id, ok := r.fresh(blanks, first)
	if !ok {
		return false
	}
	n := api.Node{ID: id}
	if blanks > 0 {
		var role string
		role, s, _ = strings.Cut(s, " ")
		if n.Role, ok = word(role); !ok {
			return false
		}
	}
	if n.Concept, ok = word(s); !ok {
		return false
	}
	r.stand(blanks, n)
	return true
}

// fresh reads the ID of a node that may stand behind so many blanks.
func (r *reader) fresh(blanks int, s string) (int, bool) {
	id, ok := number(s, r.next-1)
	if !ok || blanks == 0 && id <= r.root {
		return 0, false
	}
	if _, is := r.told[id]; is {
		return 0, false
	}
	return id, true
}

// stand lets the node stand behind so many blanks, as the last one.
func (r *reader) stand(blanks int, n api.Node) {
	if blanks == 0 {
		r.root = n.ID
	} else {
		parent := &r.nodes[r.way[blanks-1]]
		parent.Kids = append(parent.Kids, n.ID)
		n.Parent = parent.ID
	}
	r.told[n.ID] = struct{}{}
	r.way = append(r.way[:blanks], len(r.nodes))
	r.nodes = append(r.nodes, n)
}

// last answers the last node, in its place, if a property's or a reference's line with so many blanks is one of its lines.
func (r *reader) last(blanks int) (*api.Node, bool) {
	if len(r.nodes) == 0 || blanks != len(r.way) {
		return nil, false
	}
	return &r.nodes[len(r.nodes)-1], true
}

// prop reads a property's line, from behind its '.' on.
func (r *reader) prop(blanks int, s string) bool {
	n, ok := r.last(blanks)
	if !ok || len(n.Refs) > 0 {
		return false
	}
	before, quoted, _ := strings.Cut(s, "=")
	name, ok := word(before)
	if k := len(n.Props); !ok || k > 0 && name <= n.Props[k-1].Name {
		return false
	}
	value, end, e := names.Unquote(quoted, 0)
	if e != api.OK || end != len(quoted) || len(value) > api.MaxText {
		return false
	}
	n.Props = append(n.Props, api.Prop{Name: name, Value: value})
	return true
}

// ref reads a reference's line, from behind its '>' on.
func (r *reader) ref(blanks int, s string) bool {
	n, ok := r.last(blanks)
	if !ok {
		return false
	}
	before, behind, _ := strings.Cut(s, "=")
	role, ok := word(before)
	if k := len(n.Refs); !ok || k > 0 && role <= n.Refs[k-1].Role {
		return false
	}
	target, ok := number(behind, r.next-1)
	if !ok {
		return false
	}
	n.Refs = append(n.Refs, api.Ref{Role: role, Target: target})
	return true
}

// model answers what has been read.
func (r *reader) model() api.Model {
	slices.SortFunc(r.nodes, func(a, b api.Node) int { return cmp.Compare(a.ID, b.ID) })
	return api.Model{Next: r.next, Nodes: r.nodes}
}

// number reads an int's text of a number from 1 to most.
func number(s string, most int) (int, bool) {
	n, e := names.Int(s)
	if e != api.OK || n < 1 || n > int64(most) {
		return 0, false
	}
	return int(n), true
}

// word answers the text, if it is a word, in memory of its own: a piece of the line would keep the whole text that was handed in.
func word(s string) (string, bool) {
	if !arena.Word(s) {
		return "", false
	}
	return string([]byte(s)), true
}
