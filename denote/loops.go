package denote

import (
	"iter"

	"topiary/api"
)

// loop answers what a loop comes to.
func (x *evaluator) loop(n *api.ENode, vars env) api.Value {
	switch n.Kind {
	case api.EAny:
		return ofBool(x.meets(true, n, vars))
	case api.EEvery:
		return ofBool(!x.meets(false, n, vars))
	case api.EOnly:
		return ofList(x.only(n, vars))
	}
	return ofInt(x.sum(n, vars))
}

// meets tells whether one of a loop's elements comes to that bool; those behind the first one that does are not evaluated.
func (x *evaluator) meets(what bool, n *api.ENode, vars env) bool {
	for _, v := range x.elements(n, vars) {
		if asBool(v) == what {
			return true
		}
	}
	return false
}

// only answers those of a loop's elements that come to true.
func (x *evaluator) only(n *api.ENode, vars env) []int {
	var l []int
	for id, v := range x.elements(n, vars) {
		if asBool(v) {
			l = append(l, id)
		}
	}
	return l
}

// sum answers the sum of what a loop's elements come to.
func (x *evaluator) sum(n *api.ENode, vars env) int64 {
	var sum int64
	for _, v := range x.elements(n, vars) {
		sum = add(sum, asInt(v))
	}
	return sum
}

// elements goes through a loop's list, and evaluates the second kid at each element.
func (x *evaluator) elements(n *api.ENode, vars env) iter.Seq2[int, api.Value] {
	return func(yield func(id int, v api.Value) bool) {
		for _, id := range asList(x.value(n.Kids[0], vars)) {
			x.step()
			if !yield(id, x.value(n.Kids[1], vars.with(n.Text, id))) {
				return
			}
		}
	}
}
