package denote

import (
	"topiary/api"
	"topiary/names"
)

// A failure is thrown: the error to which evaluating comes.
type failure api.Errno

func fail(e api.Errno) { panic(failure(e)) }

// An env answers the node at which the innermost loop with that variable is. If there is none, it fails.
type env func(variable string) int

// noLoop is the env around an expression.
func noLoop(string) int {
	fail(api.ErrVar)
	return 0
}

// with answers the env within a loop that is at a node.
func (around env) with(variable string, node int) env {
	return func(asked string) int {
		if asked == variable {
			return node
		}
		return around(asked)
	}
}

// An evaluator evaluates an expression's nodes over a table and a model.
type evaluator struct {
	world
	expr []api.ENode
	self int
	left int // the fuel
}

// step takes one step.
func (x *evaluator) step() {
	if x.left == 0 {
		fail(api.ErrFuel)
	}
	x.left--
}

// value answers what a node comes to.
func (x *evaluator) value(at int, vars env) api.Value {
	x.step()
	n := &x.expr[at]
	switch n.Kind {
	case api.EInt:
		return ofInt(n.Int)
	case api.EText:
		return ofText(n.Text)
	case api.ETrue, api.EFalse:
		return ofBool(n.Kind == api.ETrue)
	case api.ESelf:
		return ofNode(x.self)
	case api.ENone:
		return ofNode(0)
	case api.EVar:
		return ofNode(vars(n.Text))
	case api.EAnd, api.EOr:
		return x.choice(n, vars)
	case api.EIf:
		if asBool(x.value(n.Kids[0], vars)) {
			return x.value(n.Kids[1], vars)
		}
		return x.value(n.Kids[2], vars)
	case api.EAny, api.EEvery, api.EOnly, api.ESum:
		return x.loop(n, vars)
	}
	first := x.value(n.Kids[0], vars)
	if len(n.Kids) == 1 {
		return x.ofOne(n, first)
	}
	return ofTwo(n.Kind, first, x.value(n.Kids[1], vars))
}

// choice answers what an EAnd or an EOr comes to.
func (x *evaluator) choice(n *api.ENode, vars env) api.Value {
	if first := asBool(x.value(n.Kids[0], vars)); first == (n.Kind == api.EOr) {
		return ofBool(first)
	}
	return ofBool(asBool(x.value(n.Kids[1], vars)))
}

// ofOne answers what a node comes to whose one kid came to v.
func (x *evaluator) ofOne(n *api.ENode, v api.Value) api.Value {
	switch n.Kind {
	case api.ESize:
		return ofInt(int64(len(asList(v))))
	case api.EFirst:
		return ofNode(first(asList(v)))
	case api.EShow:
		return ofText(names.Show(asInt(v)))
	case api.ERead:
		return ofInt(read(asText(v)))
	case api.ENot:
		return ofBool(!asBool(v))
	}
	return x.ofModel(n, x.asNode(v))
}

// ofModel answers what a node comes to whose kid came to that node of the model.
func (x *evaluator) ofModel(n *api.ENode, at *api.Node) api.Value {
	switch n.Kind {
	case api.EProp:
		return ofText(prop(at, n.Text))
	case api.EKids:
		return ofList(x.kidsIn(at, n.Text))
	case api.ERef:
		return ofNode(x.target(at, n.Text))
	case api.EParent:
		return ofNode(at.Parent)
	case api.EIs:
		return ofBool(x.table.Below(at.Concept, n.Text))
	case api.EAll:
		return ofList(x.all(at, n.Text))
	case api.EConcept:
		return ofText(at.Concept)
	}
	return ofInt(int64(at.ID))
}

// all answers those below a node whose concept is that one, or below it; whichever it visits takes a step.
func (x *evaluator) all(top *api.Node, concept string) []int {
	var found []int
	var visit func(ids []int)
	visit = func(ids []int) {
		for _, id := range ids {
			x.step()
			n := x.find(id)
			if x.table.Below(n.Concept, concept) {
				found = append(found, id)
			}
			visit(n.Kids)
		}
	}
	visit(top.Kids)
	return found
}
