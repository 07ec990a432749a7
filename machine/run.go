package machine

import (
	"topiary/api"
	"topiary/code"
)

// A run is at a place of its code, which is right: so it never lacks a value or a loop.
type run struct {
	world
	list  []api.Ins
	self  int
	left  int // the fuel
	begun []int
	at    int
	stack []api.Value
	loops []loop
}

// through goes on to the end of the code, or to the first error.
func (x *run) through() api.Errno {
	rows := x.rows()
	for x.at < len(x.list) {
		n := &x.list[x.at]
		x.begun[x.at]++
		// Where nothing else is said the run goes on behind it.
		x.at++
		if err := x.do(&rows[n.Op], n); err != api.OK {
			return err
		}
	}
	return api.OK
}

// do does an instruction.
func (x *run) do(r *row, n *api.Ins) api.Errno {
	var v api.Value
	if r.takes != 0 {
		if v = x.pop(); v.Kind != r.takes {
			return api.ErrKind
		}
	}
	return r.do(n, v)
}

// ask asks for so many steps.
func (x *run) ask(steps int) api.Errno {
	if steps > x.left {
		return api.ErrFuel
	}
	x.left -= steps
	return api.OK
}

func (x *run) put(v api.Value) api.Errno {
	x.stack = append(x.stack, v)
	return api.OK
}

func (x *run) pop() api.Value {
	last := len(x.stack) - 1
	v := x.stack[last]
	x.stack = x.stack[:last]
	return v
}

// An action is what is done at an instruction, with the value that was taken for it.
type action func(n *api.Ins, v api.Value) api.Errno

// A row is what an Op does, and the Kind of the one value that is taken ahead of that; 0, if none is, or if what is done takes its values itself.
type row struct {
	takes int
	do    action
}

// rows answers the Ops' rows.
func (x *run) rows() [code.OpTake + 1]row {
	return [...]row{
		code.OpStep:    {0, x.steps},
		code.OpInt:     {0, x.anInt},
		code.OpText:    {0, x.aText},
		code.OpTrue:    {0, x.yes},
		code.OpFalse:   {0, x.no},
		code.OpSelf:    {0, x.itself},
		code.OpNone:    {0, x.none},
		code.OpLoad:    {0, x.load},
		code.OpFree:    {0, x.free},
		code.OpProp:    {api.VNode, x.ofNode(x.prop)},
		code.OpKids:    {api.VNode, x.ofNode(x.kidsIn)},
		code.OpRef:     {api.VNode, x.ofNode(x.ref)},
		code.OpParent:  {api.VNode, x.ofNode(x.parent)},
		code.OpIs:      {api.VNode, x.ofNode(x.is)},
		code.OpAll:     {api.VNode, x.ofNode(x.all)},
		code.OpSize:    {api.VList, x.size},
		code.OpFirst:   {api.VList, x.first},
		code.OpShow:    {api.VInt, x.show},
		code.OpConcept: {api.VNode, x.ofNode(x.concept)},
		code.OpId:      {api.VNode, x.ofNode(x.id)},
		code.OpRead:    {api.VText, x.read},
		code.OpAdd:     {0, x.ofTwo(together)},
		code.OpSub:     {0, x.ofTwo(ofInts(sub))},
		code.OpMul:     {0, x.ofTwo(ofInts(mul))},
		code.OpEq:      {0, x.ofTwo(alike(true))},
		code.OpNe:      {0, x.ofTwo(alike(false))},
		code.OpLt:      {0, x.ofTwo(ordered(-1))},
		code.OpLe:      {0, x.ofTwo(ordered(0))},
		code.OpNot:     {api.VBool, x.not},
		code.OpAnd:     {api.VBool, x.and},
		code.OpOr:      {api.VBool, x.or},
		code.OpTruth:   {api.VBool, x.truth},
		code.OpUnless:  {api.VBool, x.unless},
		code.OpJump:    {0, x.jump},
		code.OpAny:     {api.VList, x.any},
		code.OpEvery:   {api.VList, x.every},
		code.OpOnly:    {api.VList, x.only},
		code.OpSum:     {api.VList, x.sum},
		code.OpNext:    {0, x.next},
		code.OpTake:    {0, x.take},
	}
}
