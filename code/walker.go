package code

import (
	"topiary/api"
	"topiary/names"
)

// A loop is one of those that a place has.
type loop struct {
	around *loop
	count  int // of the loops, this one and those around it
	base   int
	next   int
}

// A state is what a place has: a height, and the last of its loops, nil where there are none. As just one instruction begins the loop of a next, the same loops are the same loop.
type state struct {
	height int
	last   *loop
}

// base answers the base of the last loop.
func (s state) base() int {
	if s.last == nil {
		return 0
	}
	return s.last.base
}

// loops answers how many loops there are.
func (s state) loops() int {
	if s.last == nil {
		return 0
	}
	return s.last.count
}

// within answers the state with one loop more, whose next is at that place.
func (s state) within(next int) state {
	return state{s.height, &loop{around: s.last, count: s.loops() + 1, base: s.height, next: next}}
}

// A walker goes through instructions, in order, and knows what each place has to which one of them has led.
type walker struct {
	list   []api.Ins
	led    []bool
	states []state
}

func newWalker(list []api.Ins) *walker {
	places := len(list) + 1
	w := &walker{list: list, led: make([]bool, places), states: make([]state, places)}
	w.lead(0, state{})
	return w
}

// lead leads to a place, and tells whether all that have led there did so with the same state.
func (w *walker) lead(to int, s state) bool {
	if !w.led[to] {
		w.led[to], w.states[to] = true, s
	}
	return w.states[to] == s
}

// jump leads from a place to another one, which must be behind it.
func (w *walker) jump(at, to int, s state) bool {
	return to > at && to <= len(w.list) && w.lead(to, s)
}

// ends tells whether the end has what it must have.
func (w *walker) ends() bool {
	end := len(w.list)
	return w.led[end] && w.states[end] == state{height: 1}
}

// pass tells whether the instruction at a place is right behind those ahead of it, and leads to where it leads.
func (w *walker) pass(at int) bool {
	n, s := w.list[at], w.states[at]
	if !w.led[at] || !sound(n) || s.height-s.base() < shapes[n.Op].takes {
		return false
	}
	behind := state{s.height - shapes[n.Op].takes + shapes[n.Op].puts, s.last}
	switch n.Op {
	case OpLoad:
		return n.Arg < s.loops() && w.lead(at+1, behind)
	case OpAnd, OpOr:
		return w.jump(at, n.Arg, s) && w.lead(at+1, behind)
	case OpUnless:
		return w.jump(at, n.Arg, behind) && w.lead(at+1, behind)
	case OpJump:
		return w.jump(at, n.Arg, s)
	case OpAny, OpEvery, OpOnly, OpSum:
		return w.isNext(at+1) && w.lead(at+1, behind.within(at+1))
	case OpNext:
		return w.next(at, n.Arg, s)
	case OpTake:
		return s.last != nil && s.last.next == n.Arg && s.height == s.last.base+1
	}
	return w.lead(at+1, behind)
}

// isNext tells whether a next stands at a place.
func (w *walker) isNext(at int) bool {
	return at < len(w.list) && w.list[at].Op == OpNext
}

// next tells the same of a next as pass does.
func (w *walker) next(at, to int, s state) bool {
	if s.last == nil || s.last.next != at || s.height != s.last.base {
		return false
	}
	return w.lead(at+1, s) && w.jump(at, to, state{s.height + 1, s.last.around})
}

// sound tells whether an instruction is as told, wherever it stands.
func sound(n api.Ins) bool {
	if n.Op < OpStep || n.Op >= len(shapes) {
		return false
	}
	switch shapes[n.Op].has {
	case count:
		return n.Arg >= 1 && n == api.Ins{Op: n.Op, Arg: n.Arg}
	case number:
		return n.Arg >= 0 && n == api.Ins{Op: n.Op, Arg: n.Arg}
	case anInt:
		return n == api.Ins{Op: n.Op, Int: n.Int}
	case aText:
		return len(n.Text) <= api.MaxText && n == api.Ins{Op: n.Op, Text: n.Text}
	case aName:
		return names.Right(n.Text) && n == api.Ins{Op: n.Op, Text: n.Text}
	}
	return n == api.Ins{Op: n.Op}
}
