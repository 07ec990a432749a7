package code

import (
	"slices"
	"strings"

	"topiary/api"
)

// A writer writes the code of an expression's nodes.
type writer struct {
	nodes []api.ENode
	list  []api.Ins
	loops []string // the variables of the loops in whose bodies the writer is, the innermost one's last
}

func (w *writer) put(n api.Ins) { w.list = append(w.list, n) }

// ahead puts an instruction whose place is not known yet, and answers what fills that in: the place that is reached by then.
func (w *writer) ahead(op int) func() {
	at := len(w.list)
	w.put(api.Ins{Op: op})
	return func() { w.list[at].Arg = len(w.list) }
}

// node writes the code of a node with so many steps.
func (w *writer) node(at, steps int) {
	n := &w.nodes[at]
	if len(n.Kids) == 0 {
		w.put(api.Ins{Op: OpStep, Arg: steps})
		w.put(w.leaf(n))
		return
	}
	w.node(n.Kids[0], steps+1)
	switch n.Kind {
	case api.EAnd, api.EOr:
		w.both(n)
	case api.EIf:
		w.choice(n)
	case api.EAny, api.EEvery, api.EOnly, api.ESum:
		w.loop(n)
	default:
		for _, kid := range n.Kids[1:] {
			w.node(kid, 1)
		}
		w.put(api.Ins{Op: ops[n.Kind], Text: strings.Clone(n.Text)})
	}
}

// leaf answers the instruction of a node without kids.
func (w *writer) leaf(n *api.ENode) api.Ins {
	if n.Kind == api.EVar {
		return w.variable(n.Text)
	}
	return api.Ins{Op: ops[n.Kind], Int: n.Int, Text: strings.Clone(n.Text)}
}

func (w *writer) variable(name string) api.Ins {
	for i, bound := range slices.Backward(w.loops) {
		if bound == name {
			return api.Ins{Op: OpLoad, Arg: len(w.loops) - 1 - i}
		}
	}
	return api.Ins{Op: OpFree}
}

// both writes what stands behind the first kid of an EAnd or an EOr.
func (w *writer) both(n *api.ENode) {
	fill := w.ahead(ops[n.Kind])
	w.node(n.Kids[1], 1)
	w.put(api.Ins{Op: OpTruth})
	fill()
}

// choice writes what stands behind the first kid of an EIf.
func (w *writer) choice(n *api.ENode) {
	fillNo := w.ahead(OpUnless)
	w.node(n.Kids[1], 1)
	fillEnd := w.ahead(OpJump)
	fillNo()
	w.node(n.Kids[2], 1)
	fillEnd()
}

// loop writes what stands behind a loop's list.
func (w *writer) loop(n *api.ENode) {
	w.put(api.Ins{Op: ops[n.Kind]})
	next := len(w.list)
	fill := w.ahead(OpNext)
	w.loops = append(w.loops, n.Text)
	w.node(n.Kids[1], 1)
	w.loops = w.loops[:len(w.loops)-1]
	w.put(api.Ins{Op: OpTake, Arg: next})
	fill()
}
