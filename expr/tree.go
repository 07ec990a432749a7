package expr

import (
	"math"

	"topiary/api"
	"topiary/lex"
)

// A tree is an expression while it is read: from the left, so that what comes first in its list is known last.
type tree struct {
	node  api.ENode // without its Kids
	kids  []*tree
	size  int
	depth int
}

func newTree(kind int, text string, kids ...*tree) *tree {
	t := &tree{node: api.ENode{Kind: kind, Text: text}, kids: kids, size: 1, depth: 1}
	for _, k := range kids {
		t.size += k.size
		t.depth = max(t.depth, k.depth+1)
	}
	return t
}

func newInt(n int64) *tree {
	t := newTree(api.EInt, "")
	t.node.Int = n
	return t
}

// list answers the tree's nodes in the order in which they are met.
func (t *tree) list() []api.ENode {
	out := make([]api.ENode, 0, t.size)
	var meet func(t *tree)
	meet = func(t *tree) {
		n := t.node
		kid := len(out) + 1
		for _, k := range t.kids {
			n.Kids = append(n.Kids, kid)
			kid += k.size
		}
		out = append(out, n)
		for _, k := range t.kids {
			meet(k)
		}
	}
	meet(t)
	return out
}

// depth answers the depth of the nodes, if they are a tree and stand in the order in which they are met.
func depth(l []api.ENode) (int, bool) {
	met, deepest := 0, 0
	var meet func(at, level int) bool
	meet = func(at, level int) bool {
		// As each node must be the one behind the last one that was met, no ring is gone through twice.
		if at != met || at >= len(l) {
			return false
		}
		met++
		deepest = max(deepest, level)
		for _, kid := range l[at].Kids {
			if !meet(kid, level+1) {
				return false
			}
		}
		return true
	}
	ok := meet(0, 1) && met == len(l)
	return deepest, ok
}

// behind answers the number behind those of a node and all below it, in a tree.
func behind(l []api.ENode, at int) int {
	for missing := 1; missing > 0; at++ {
		missing += len(l[at].Kids) - 1
	}
	return at
}

// sound tells whether a node may be, whatever stands around it.
func sound(n api.ENode) bool {
	if n.Kind < api.EInt || n.Kind >= len(signs) || len(n.Kids) != signs[n.Kind].kids {
		return false
	}
	if n.Int != 0 && (n.Kind != api.EInt || n.Int == math.MinInt64) {
		return false
	}
	switch {
	case n.Kind == api.EText:
		return len(n.Text) <= api.MaxText
	case signs[n.Kind].named:
		return isName(n.Text)
	}
	return n.Text == ""
}

// isName tells whether the text is a name that is no reserved word: then layer 7 takes it as a Name.
func isName(s string) bool {
	_, e := lex.Join([]api.Token{{Kind: lex.Name, Text: s}})
	return e == api.OK
}
