package machine

import "topiary/api"

// A gathering is what a loop gathers.
type gathering interface {
	// gather gathers what has come at a node, and tells whether the loop ends with it.
	gather(v api.Value, node int) (ends bool, err api.Errno)
	// told answers what comes of the loop when it ends.
	told() api.Value
}

// A loop goes over a list.
type loop struct {
	gathering
	list []int
	been int // at how many of its elements
}

// node answers the node at which the loop is.
func (l *loop) node() int { return l.list[l.been-1] }

// A search ends with the first bool that is the one sought.
type search struct {
	sought bool
	found  bool
}

func (s *search) gather(v api.Value, _ int) (bool, api.Errno) {
	if v.Kind != api.VBool {
		return false, api.ErrKind
	}
	s.found = v.Bool == s.sought
	return s.found, api.OK
}

func (s *search) told() api.Value { return ofBool(s.found == s.sought) }

// A choice is the nodes at which true came.
type choice struct{ nodes []int }

func (c *choice) gather(v api.Value, node int) (bool, api.Errno) {
	if v.Kind != api.VBool {
		return false, api.ErrKind
	}
	if v.Bool {
		c.nodes = append(c.nodes, node)
	}
	return false, api.OK
}

func (c *choice) told() api.Value { return ofList(c.nodes) }

// A total is the sum of the ints that came.
type total struct{ sum int64 }

func (t *total) gather(v api.Value, _ int) (bool, api.Errno) {
	sum, err := ofInts(add)(t.told(), v)
	t.sum = sum.Int
	return false, err
}

func (t *total) told() api.Value { return ofInt(t.sum) }

func (x *run) any(_ *api.Ins, v api.Value) api.Errno { return x.over(v.List, &search{sought: true}) }

func (x *run) every(_ *api.Ins, v api.Value) api.Errno { return x.over(v.List, &search{sought: false}) }

func (x *run) only(_ *api.Ins, v api.Value) api.Errno { return x.over(v.List, &choice{}) }

func (x *run) sum(_ *api.Ins, v api.Value) api.Errno { return x.over(v.List, &total{}) }

// over begins a loop over a list.
func (x *run) over(l []int, g gathering) api.Errno {
	x.loops = append(x.loops, loop{gathering: g, list: l})
	return api.OK
}

// loopAt answers the loop that is so many loops from the last one.
func (x *run) loopAt(far int) *loop { return &x.loops[len(x.loops)-1-far] }

func (x *run) load(n *api.Ins, _ api.Value) api.Errno { return x.put(ofNode(x.loopAt(n.Arg).node())) }

func (x *run) next(n *api.Ins, _ api.Value) api.Errno {
	l := x.loopAt(0)
	if l.been == len(l.list) {
		return x.leave(n)
	}
	l.been++
	return x.ask(1)
}

func (x *run) take(n *api.Ins, _ api.Value) api.Errno {
	l := x.loopAt(0)
	ends, err := l.gather(x.pop(), l.node())
	if err != api.OK {
		return err
	}
	if ends {
		return x.leave(&x.list[n.Arg])
	}
	x.at = n.Arg
	return api.OK
}

// leave ends the last loop, whose next is handed in.
func (x *run) leave(next *api.Ins) api.Errno {
	told := x.loopAt(0).told()
	x.loops = x.loops[:len(x.loops)-1]
	x.at = next.Arg
	return x.put(told)
}
