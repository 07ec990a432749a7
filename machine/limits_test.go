package machine_test

import (
	"math"
	"strconv"
	"strings"
	"testing"

	"topiary/api"
	"topiary/code"
	"topiary/machine"
)

// isRefused asks that Run and Profile tell that error, ahead of the run, and nothing beside.
func (w world) isRefused(t *testing.T, c api.Code, self, fuel int, want api.Errno) {
	t.Helper()
	w.answers(t, c, self, fuel, come{err: want})
	w.begins(t, c, self, fuel, nil, want)
}

// P12.1, P12.2: fuel -1, 0, 2^20, 2^20 + 1.
func TestFuelLimits(t *testing.T) {
	w := wide(t)
	for _, s := range []string{"true", "step 1, true", "free", "self, prop name"} {
		c := of(t, s)
		for _, fuel := range []int{-1, -2, 1<<20 + 1, 1<<20 + 2, math.MinInt, math.MaxInt, 1 << 32} {
			w.isRefused(t, c, 1, fuel, api.ErrArg)
		}
	}
	w.answers(t, of(t, "true"), 1, 0, come{v: truth(true)})
	w.begins(t, of(t, "true"), 1, 0, []int{1}, api.OK)
	w.answers(t, of(t, "step 1, true"), 1, 0, come{err: api.ErrFuel})
	w.begins(t, of(t, "step 1, true"), 1, 0, []int{1, 0}, api.ErrFuel)
	w.answers(t, of(t, "step 1, true"), 1, 1<<20, come{v: truth(true), steps: 1})
	w.answers(t, of(t, "free"), 1, 1<<20, come{err: api.ErrVar})
	w.begins(t, of(t, "free, not"), 1, 1<<20, []int{1, 0}, api.ErrVar)
}

// P12.1, P12.2: self 0, an ID, and what is none.
func TestSelf(t *testing.T) {
	w := wide(t)
	for self := -3; self < 40; self++ {
		if self >= 0 && self <= 10 {
			w.answers(t, of(t, "self"), self, 9, come{v: node(self)})
			w.begins(t, of(t, "self"), self, 9, []int{1}, api.OK)
		} else {
			w.isRefused(t, of(t, "true"), self, 9, api.ErrArg)
		}
	}
	for _, self := range []int{math.MinInt, math.MaxInt, 1 << 20, 1 << 32, 1<<32 + 1} {
		w.isRefused(t, of(t, "self"), self, 9, api.ErrArg)
	}
	gone := worldOf(t, "next 9", "2 A", " 1 r A", "  7 r A", "5 A")
	for self := range 10 {
		if strings.Contains("01257", strconv.Itoa(self)) {
			gone.asked(t, of(t, "self, id"), self)
		} else {
			gone.isRefused(t, of(t, "true"), self, 9, api.ErrArg)
		}
	}
}

// wrongModels are such as aren't right.
func wrongModels(t *testing.T) []api.Model {
	t.Helper()
	var out []api.Model
	change := func(f func(m *api.Model)) {
		m := wide(t).m
		f(&m)
		out = append(out, m)
	}
	change(func(m *api.Model) { m.Next = 0 })
	change(func(m *api.Model) { m.Next = 5 })
	change(func(m *api.Model) { m.Next = 1<<20 + 2 })
	change(func(m *api.Model) { m.Nodes[0].Concept = "" })
	change(func(m *api.Model) { m.Nodes[1].Role = "" })
	change(func(m *api.Model) { m.Nodes[1].Parent = 2 })
	change(func(m *api.Model) { m.Nodes[0].Kids = m.Nodes[0].Kids[1:] })
	change(func(m *api.Model) { m.Nodes[0].Kids = append(m.Nodes[0].Kids, 2) })
	change(func(m *api.Model) { m.Nodes[0].Kids[0] = 20 })
	change(func(m *api.Model) { m.Nodes[3].Refs[0].Target = 30 })
	change(func(m *api.Model) { m.Nodes[3].Props[0].Value = strings.Repeat("v", 4097) })
	change(func(m *api.Model) { m.Nodes[0], m.Nodes[1] = m.Nodes[1], m.Nodes[0] })
	change(func(m *api.Model) { m.Nodes[0].Parent, m.Nodes[0].Role, m.Nodes[1].Kids = 2, "item", []int{1} })
	return append(out, api.Model{}, api.Model{Next: -1})
}

// P12.1, P12.2: the model's error ahead of the code's, that ahead of what is wrong with self and fuel, that ahead of all that is run.
func TestOrderOfErrors(t *testing.T) {
	for _, m := range wrongModels(t) {
		w := wide(t)
		w.m = m
		w.isRefused(t, of(t, "true"), 0, 9, api.ErrModel)
		w.isRefused(t, of(t, "true"), -1, -1, api.ErrModel)
		w.isRefused(t, api.Code{}, 0, 9, api.ErrModel)
		w.isRefused(t, api.Code{List: make([]api.Ins, 1025)}, 99, 1<<20+1, api.ErrModel)
		w.isRefused(t, of(t, "free"), 0, 0, api.ErrModel)
	}
	w := wide(t)
	for _, fuel := range []int{-1, 0, 9, 1<<20 + 1} {
		for _, self := range []int{-1, 0, 1, 99} {
			w.isRefused(t, api.Code{}, self, fuel, api.ErrCode)
			w.isRefused(t, api.Code{List: make([]api.Ins, 1025)}, self, fuel, api.ErrFull)
		}
	}
	w.isRefused(t, of(t, "free"), 99, 0, api.ErrArg)
	w.isRefused(t, of(t, "step 9, free"), 99, 9, api.ErrArg)
	w.isRefused(t, of(t, "free"), 1, -1, api.ErrArg)
}

// P12.1, P12.2, P0.1: lists of instructions that are no code that is right.
func TestNoCode(t *testing.T) {
	w := wide(t)
	self, any, next := api.Ins{Op: code.OpSelf}, api.Ins{Op: code.OpAny}, api.Ins{Op: code.OpNext, Arg: 4}
	for _, l := range [][]api.Ins{
		nil, {}, {{}}, {{Op: -1}}, {{Op: 41}}, {{Op: 1 << 40}}, {{Op: math.MinInt}},
		{{Op: code.OpAdd}}, {{Op: code.OpNot}}, {{Op: code.OpTruth}}, {{Op: code.OpJump, Arg: 0}}, {{Op: code.OpJump, Arg: 1}}, {{Op: code.OpJump, Arg: -1}, self}, {{Op: code.OpJump, Arg: 9}, self},
		{self, self}, {self, {Op: code.OpAdd}}, {self, {Op: code.OpSelf, Arg: 1}}, {self, {Op: code.OpProp}}, {self, {Op: code.OpProp, Text: "?a"}}, {self, {Op: code.OpAnd, Arg: 2}},
		{{Op: code.OpStep}, self}, {{Op: code.OpStep, Arg: -1}, self}, {{Op: code.OpStep, Arg: math.MinInt}, self},
		{{Op: code.OpLoad}}, {{Op: code.OpLoad, Arg: -1}}, {{Op: code.OpText, Text: strings.Repeat("t", 4097)}},
		{self, any}, {self, any, self}, {self, any, next}, {self, any, next, {Op: code.OpTrue}}, {self, any, next, {Op: code.OpTake, Arg: 2}}, {self, {Op: code.OpTake, Arg: 0}}, {next},
		{self, any, {Op: code.OpNext, Arg: 5}, {Op: code.OpLoad, Arg: 1}, {Op: code.OpTake, Arg: 2}}, {self, any, {Op: code.OpNext, Arg: 5}, self, {Op: code.OpTake, Arg: 3}},
		make([]api.Ins, 1024),
	} {
		w.isRefused(t, api.Code{List: l}, 1, 9, api.ErrCode)
	}
	w.isRefused(t, api.Code{List: make([]api.Ins, 1<<16)}, 1, 9, api.ErrFull)
}

// P12.1, P12.2: 1024 instructions and one more; a stack of hundreds of values.
func TestMuchCode(t *testing.T) {
	w := wide(t)
	var l []api.Ins
	for range 512 {
		l = append(l, api.Ins{Op: code.OpInt, Int: 3})
	}
	for range 511 {
		l = append(l, api.Ins{Op: code.OpAdd})
	}
	w.answers(t, api.Code{List: l}, 1, 0, come{v: number(1536)})
	l = append(l, api.Ins{Op: code.OpShow})
	w.answers(t, api.Code{List: l}, 1, 0, come{v: words("1536")})
	begun := make([]int, 1024)
	for i := range begun {
		begun[i] = 1
	}
	w.begins(t, api.Code{List: l}, 1, 0, begun, api.OK)
	w.isRefused(t, api.Code{List: append(l, api.Ins{Op: code.OpRead})}, 1, 0, api.ErrFull)
	// Each value is the one that was put there.
	l = nil
	for i := range 512 {
		l = append(l, api.Ins{Op: code.OpInt, Int: int64(i)})
	}
	for range 511 {
		l = append(l, api.Ins{Op: code.OpSub})
	}
	w.asked(t, api.Code{List: l}, 1)
}

// rows is a root with so many kids in the roles a, b and c.
func rows(t *testing.T, a, b, c int) world {
	t.Helper()
	m := api.Model{Next: 2, Nodes: []api.Node{{ID: 1, Concept: "List"}}}
	for _, l := range []struct {
		role string
		n    int
	}{{"a", a}, {"b", b}, {"c", c}} {
		for range l.n {
			m.Nodes = append(m.Nodes, api.Node{ID: m.Next, Concept: "Num", Parent: 1, Role: l.role})
			m.Nodes[0].Kids = append(m.Nodes[0].Kids, m.Next)
			m.Next++
		}
	}
	return newWorld(t, m)
}

// P12.1, P12.2, P12.5: what takes just 2^20 steps, and one more.
func TestManySteps(t *testing.T) {
	c := of(t, "self, kids a, sum, next 11, self, kids b, sum, next 10, int 1, take 7, take 3, self, all Item, size, add")
	// One of each element of the outer loop, 2090 of what is within, one of each node below.
	rest := 1<<20 - 500*2091
	w := rows(t, 500, 2090, rest-500-2090)
	want := come{v: number(500*2090 + int64(rest)), steps: 1 << 20}
	w.answers(t, c, 1, 1<<20, want)
	within := 500 * 2090
	w.begins(t, c, 1, 1<<20, []int{1, 1, 1, 501, 500, 500, 500, within + 500, within, within, 500, 1, 1, 1, 1}, api.OK)
	w.answers(t, c, 1, 1<<20-1, come{err: api.ErrFuel})
	w.begins(t, c, 1, 1<<20-1, []int{1, 1, 1, 501, 500, 500, 500, within + 500, within, within, 500, 1, 1, 0, 0}, api.ErrFuel)
	w = rows(t, 500, 2090, rest-500-2090+1)
	w.answers(t, c, 1, 1<<20, come{err: api.ErrFuel})
}

// P0.1, P12.1: lists of thousands of nodes, asked for without a step, at each of many turns.
func TestManyKids(t *testing.T) {
	w := rows(t, 500, 500, 3095)
	c := of(t, "self, kids a, sum, next 13, self, kids b, sum, next 12, self, kids c, size, take 7, take 3")
	w.answers(t, c, 1, 1<<20, come{v: number(500 * 500 * 3095), steps: 500 * 501})
	c = of(t, "self, kids a, sum, next 16, self, kids b, sum, next 15, self, kids c, sum, next 14, int 1, take 11, take 7, take 3")
	w.answers(t, c, 1, 1<<20, come{err: api.ErrFuel})
	w.answers(t, of(t, "self, all Num, size, self, all List, size, sub"), 1, 1<<20, come{v: number(4095), steps: 2 * 4095})
}

// P12.1: nodes that stand 64 deep.
func TestDeepModel(t *testing.T) {
	m := api.Model{Next: 65}
	for id := 1; id <= 64; id++ {
		n := api.Node{ID: id, Concept: "Num", Parent: id - 1, Role: "item"}
		if id == 1 {
			n.Role = ""
		}
		if id < 64 {
			n.Kids = []int{id + 1}
		}
		m.Nodes = append(m.Nodes, n)
	}
	w := newWorld(t, m)
	w.is(t, "self, all Num, size", 1, "63, 63 steps")
	w.is(t, "self, all Item, sum, next 8, load 0, parent, id, take 3", 1, "2016, 126 steps")
	w.is(t, "self, kids item, first", 63, "@64, 0 steps")
	w.is(t, "self, kids item, size", 64, "0, 0 steps")
}

// P12.1: texts that are just so long, as they are answered.
func TestLongTexts(t *testing.T) {
	long := strings.Repeat("t", 4096)
	w := items(t, long, long[1:])
	w.answers(t, of(t, "self, prop v"), 2, 9, come{v: words(long)})
	w.answers(t, api.Code{List: []api.Ins{{Op: code.OpText, Text: long}}}, 2, 9, come{v: words(long)})
	w.answers(t, of(t, `self, prop v, text "", add`), 2, 9, come{v: words(long)})
	w.answers(t, of(t, `text "t", self, prop v, add`), 3, 9, come{v: words(long)})
	w.answers(t, of(t, `text "t", self, prop v, add`), 2, 9, come{err: api.ErrLong})
	w.answers(t, of(t, `self, prop v, text "tt", add`), 3, 9, come{err: api.ErrLong})
	w.profile(t, `self, prop v, text "tt", add, size`, 3, 9, "1 1 1 1 0", api.ErrLong)
}

// P12.1: models of no nodes, and of one.
func TestFewNodes(t *testing.T) {
	w := worldOf(t, "next 1")
	w.is(t, "self", 0, "@0, 0 steps")
	w.is(t, "int 1, int 1, add", 0, "2, 0 steps")
	w.fails(t, "self, all A", 0, api.ErrNone, 0)
	w = worldOf(t, "next 1048577", "1048576 A")
	w.is(t, "self, all A", 1048576, "[], 0 steps")
	w.is(t, "self, id", 1048576, "1048576, 0 steps")
	w.is(t, "self", 1048576, "@1048576, 0 steps")
}

// P12.1: a role or a property may be any name, and none is mixed up with another one's.
func TestNames(t *testing.T) {
	long := strings.Repeat("n", 32)
	w := worldOf(t, "next 9", "1 A", ` .B="1"`, ` .a="2"`, ` .`+long+`="3"`, " >B=2", " >a=3", " >"+long+"=1", " 2 a A", " 3 "+long+" A", " 4 a "+long)
	w.is(t, "self, prop a, self, prop B, add, self, prop "+long+", add", 1, `"213", 0 steps`)
	w.is(t, "self, prop "+long[1:], 1, `"", 0 steps`)
	w.is(t, "self, ref a", 1, "@3, 0 steps")
	w.is(t, "self, ref B", 1, "@2, 0 steps")
	w.is(t, "self, ref "+long, 1, "@1, 0 steps")
	w.is(t, "self, ref A", 1, "@0, 0 steps")
	w.is(t, "self, ref z", 1, "@0, 0 steps")
	w.is(t, "self, kids a", 1, "[2 4], 0 steps")
	w.is(t, "self, kids "+long, 1, "[3], 0 steps")
	w.is(t, "self, all "+long, 1, "[4], 3 steps")
	w.is(t, "self, all A", 1, "[2 3], 3 steps")
	// The same role of one node and of another one.
	w.is(t, "self, kids a, size, self, kids a, first, kids a, size, sub", 1, "2, 0 steps")
}

// P12.2: the numbers are told beside an error of the run, and none beside an error ahead of it.
func TestProfiles(t *testing.T) {
	w := wide(t)
	w.profile(t, "self, size, not", 1, 9, "1 1 0", api.ErrKind)
	w.profile(t, "none, id, show", 1, 9, "1 1 0", api.ErrNone)
	w.profile(t, "int 1, show, read, free, eq", 1, 9, "1 1 1 1 0", api.ErrVar)
	w.profile(t, `text "a", read`, 1, 9, "1 1", api.ErrTexts)
	w.profile(t, "int 9223372036854775807, int 1, add, show", 1, 9, "1 1 1 0", api.ErrOver)
	w.profile(t, "step 5, true, step 5, not", 1, 9, "1 1 1 0", api.ErrFuel)
	w.profile(t, "true, unless 4, int 1, jump 5, int 2", 1, 9, "1 1 1 1 0", api.OK)
	w.profile(t, "false, unless 4, int 1, jump 5, int 2", 1, 9, "1 1 0 0 1", api.OK)
	w.profile(t, "false, and 4, free, not, not", 1, 9, "1 1 0 0 1", api.OK)
	for _, fuel := range []int{-1, 1<<20 + 1} {
		if l, err := machine.Profile(w.table, w.m, of(t, "self, size, not"), 1, fuel); len(l) > 0 || err != api.ErrArg {
			t.Errorf("%v, %d", l, err)
		}
	}
}
