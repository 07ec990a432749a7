package denote_test

import (
	"math"
	"strconv"
	"strings"
	"testing"

	"topiary/api"
	"topiary/denote"
	"topiary/expr"
)

// isRefused asks that Of tells that error, and nothing beside.
func (w world) isRefused(t *testing.T, e api.Expr, self, fuel int, want api.Errno) {
	t.Helper()
	v, steps, err := denote.Of(w.table, w.m, e, self, fuel)
	if !sameValue(v, api.Value{}) || steps != 0 || err != want {
		t.Fatalf("Of(%.300s) at %d with %d: %s; not %d", text(e), self, fuel, come{v, err, steps}.show(), want)
	}
}

// P10.1: fuel -1, 0, 2^20, 2^20 + 1.
func TestFuelLimits(t *testing.T) {
	w := wide(t)
	for _, s := range []string{"1", "x", "self.name"} {
		e := read(t, s)
		for _, fuel := range []int{-1, -2, 1<<20 + 1, 1<<20 + 2, math.MinInt, math.MaxInt, 1 << 32} {
			w.isRefused(t, e, 1, fuel, api.ErrArg)
		}
		w.isRefused(t, e, 1, 0, api.ErrFuel)
	}
	w.answers(t, read(t, "1"), 1, 1<<20, come{v: number(1), steps: 1})
	w.answers(t, read(t, "x"), 1, 1<<20, come{err: api.ErrVar})
}

// P10.1: self 0, an ID, and what is none.
func TestSelf(t *testing.T) {
	w := wide(t)
	for self := -3; self < 40; self++ {
		if self >= 0 && self <= 10 {
			w.answers(t, read(t, "self"), self, 9, come{v: node(self), steps: 1})
		} else {
			w.isRefused(t, read(t, "1"), self, 9, api.ErrArg)
		}
	}
	for _, self := range []int{math.MinInt, math.MaxInt, 1 << 20, 1 << 32, 1<<32 + 1} {
		w.isRefused(t, read(t, "self"), self, 9, api.ErrArg)
	}
	gone := worldOf(t, "next 9", "2 A", " 1 r A", "  7 r A", "5 A")
	for self := range 10 {
		if strings.Contains("01257", strconv.Itoa(self)) {
			gone.answers(t, read(t, "id(self)"), self, 9, slow{m: gone.m, self: self, expr: read(t, "id(self)").Nodes}.come().with(9))
		} else {
			gone.isRefused(t, read(t, "true"), self, 9, api.ErrArg)
		}
	}
}

// wrongModels are such as aren't right.
func wrongModels(t *testing.T) []api.Model {
	t.Helper()
	var out []api.Model
	change := func(f func(m *api.Model)) {
		m := wide(t).m
		f(&m)
		out = append(out, m)
	}
	change(func(m *api.Model) { m.Next = 0 })
	change(func(m *api.Model) { m.Next = 5 })
	change(func(m *api.Model) { m.Next = 1<<20 + 2 })
	change(func(m *api.Model) { m.Nodes[0].Concept = "" })
	change(func(m *api.Model) { m.Nodes[1].Role = "" })
	change(func(m *api.Model) { m.Nodes[1].Parent = 2 })
	change(func(m *api.Model) { m.Nodes[0].Kids = m.Nodes[0].Kids[1:] })
	change(func(m *api.Model) { m.Nodes[0].Kids = append(m.Nodes[0].Kids, 2) })
	change(func(m *api.Model) { m.Nodes[0].Kids[0] = 20 })
	change(func(m *api.Model) { m.Nodes[3].Refs[0].Target = 30 })
	change(func(m *api.Model) { m.Nodes[3].Props[0].Value = strings.Repeat("v", 4097) })
	change(func(m *api.Model) { m.Nodes[0], m.Nodes[1] = m.Nodes[1], m.Nodes[0] })
	change(func(m *api.Model) { m.Nodes[0].Parent, m.Nodes[0].Role, m.Nodes[1].Kids = 2, "item", []int{1} })
	return append(out, api.Model{}, api.Model{Next: -1})
}

// P10.1: the model's error ahead of the expression's, that ahead of what is wrong with self and fuel, that ahead of all that is evaluated.
func TestOrderOfErrors(t *testing.T) {
	for _, m := range wrongModels(t) {
		w := wide(t)
		w.m = m
		w.isRefused(t, read(t, "1"), 0, 9, api.ErrModel)
		w.isRefused(t, read(t, "1"), -1, -1, api.ErrModel)
		w.isRefused(t, api.Expr{}, 0, 9, api.ErrModel)
		w.isRefused(t, api.Expr{Nodes: make([]api.ENode, 257)}, 99, 1<<20+1, api.ErrModel)
		w.isRefused(t, read(t, "x"), 0, 0, api.ErrModel)
	}
	w := wide(t)
	for _, fuel := range []int{-1, 0, 9, 1<<20 + 1} {
		for _, self := range []int{-1, 0, 1, 99} {
			w.isRefused(t, api.Expr{}, self, fuel, api.ErrExpr)
			w.isRefused(t, api.Expr{Nodes: make([]api.ENode, 257)}, self, fuel, api.ErrFull)
		}
	}
	w.isRefused(t, read(t, "x"), 99, 0, api.ErrArg)
	w.isRefused(t, read(t, "x"), 99, 9, api.ErrArg)
	w.isRefused(t, read(t, "x"), 1, -1, api.ErrArg)
}

// P10.1: lists of nodes that are no expression.
func TestNoExpression(t *testing.T) {
	w := wide(t)
	leaf := api.ENode{Kind: api.EInt, Int: 1}
	for _, l := range [][]api.ENode{
		nil, {}, {{}}, {{Kind: -1}}, {{Kind: 35}}, {{Kind: 1 << 40}},
		{{Kind: api.EInt, Text: "a"}}, {{Kind: api.EInt, Int: math.MinInt64}},
		{{Kind: api.EVar}}, {{Kind: api.EVar, Text: "self"}}, {{Kind: api.EVar, Text: "?x"}}, {{Kind: api.EVar, Text: "x", Int: 1}},
		{{Kind: api.EText, Text: strings.Repeat("v", 4097)}},
		{leaf, leaf}, {{Kind: api.ENot}}, {{Kind: api.ENot, Kids: []int{1}}}, {{Kind: api.ENot, Kids: []int{0}}}, {{Kind: api.ENot, Kids: []int{-1}}, leaf},
		{{Kind: api.EAdd, Kids: []int{1, 1}}, leaf}, {{Kind: api.EAdd, Kids: []int{2, 1}}, leaf, leaf}, {{Kind: api.EAdd, Kids: []int{1, 2}}, leaf, leaf, leaf},
		{{Kind: api.EAny, Kids: []int{1, 2}}, leaf, leaf}, {{Kind: api.EIf, Kids: []int{1, 2}}, leaf, leaf}, {{Kind: api.EAnd, Kids: []int{1}}, leaf},
		make([]api.ENode, 256),
	} {
		w.isRefused(t, api.Expr{Nodes: l}, 1, 9, api.ErrExpr)
	}
	w.isRefused(t, api.Expr{Nodes: make([]api.ENode, 1<<16)}, 1, 9, api.ErrFull)
}

// P10.1: 256 nodes and one more; a depth of 32 and of one more.
func TestGreatExpressions(t *testing.T) {
	w := wide(t)
	one := tree{kind: api.EInt, num: 1}
	sum := func(n int) tree {
		var of func(n int) tree
		of = func(n int) tree {
			if n == 1 {
				return one
			}
			left := (n-1)/2 | 1
			return tree{kind: api.EAdd, kids: []tree{of(left), of(n - 1 - left)}}
		}
		return of(n)
	}
	w.answers(t, sum(255).expr(), 1, 255, come{v: number(128), steps: 255})
	w.answers(t, sum(255).expr(), 1, 254, come{err: api.ErrFuel})
	w.answers(t, tree{kind: api.EShow, kids: []tree{sum(255)}}.expr(), 1, 256, come{v: words("128"), steps: 256})
	w.isRefused(t, sum(257).expr(), 1, 999, api.ErrFull)
	for n := 28; n < 36; n++ {
		x, up := tree{kind: api.ETrue}, tree{kind: api.ESelf}
		for range n {
			x, up = tree{kind: api.ENot, kids: []tree{x}}, tree{kind: api.ERef, text: "to", kids: []tree{up}}
		}
		if n > 31 {
			w.isRefused(t, x.expr(), 8, 99, api.ErrFull)
			w.isRefused(t, up.expr(), 8, 99, api.ErrFull)
			continue
		}
		w.answers(t, x.expr(), 8, 99, come{v: truth(n%2 == 0), steps: n + 1})
		w.answers(t, up.expr(), 8, 99, come{v: node(8), steps: n + 1})
	}
}

// rows is a root with so many kids in the roles a, b and c.
func rows(t *testing.T, a, b, c int) world {
	t.Helper()
	m := api.Model{Next: 2, Nodes: []api.Node{{ID: 1, Concept: "List"}}}
	for _, l := range []struct {
		role string
		n    int
	}{{"a", a}, {"b", b}, {"c", c}} {
		for range l.n {
			m.Nodes = append(m.Nodes, api.Node{ID: m.Next, Concept: "Num", Parent: 1, Role: l.role})
			m.Nodes[0].Kids = append(m.Nodes[0].Kids, m.Next)
			m.Next++
		}
	}
	return newWorld(t, m)
}

// P10.1, P10.2: what takes just 2^20 steps, and one more.
func TestManySteps(t *testing.T) {
	e := read(t, "(sum x in self#a: sum y in self#b: 1 end end) + size(self!!Item)")
	// 3 of the outer loop, 4096 of each of its elements, 4 of the rest, one of each node below.
	rest := 1<<20 - 3 - 255*4096 - 4
	w := rows(t, 255, 2046, rest-255-2046)
	want := come{v: number(255*2046 + int64(rest)), steps: 1 << 20}
	w.answers(t, e, 1, 1<<20, want)
	w.answers(t, e, 1, 1<<20-1, come{err: api.ErrFuel})
	w = rows(t, 255, 2046, rest-255-2046+1)
	w.answers(t, e, 1, 1<<20, come{err: api.ErrFuel})
	// Of wrong Kinds, but ahead of that without fuel.
	w.answers(t, tree{kind: api.ENot, kids: []tree{treeOf(e)}}.expr(), 1, 1<<20, come{err: api.ErrFuel})
}

// treeOf is the tree that an expression is.
func treeOf(e api.Expr) tree {
	x := tree{kind: e.Nodes[0].Kind, text: e.Nodes[0].Text, num: e.Nodes[0].Int}
	for _, kid := range e.Nodes[0].Kids {
		part, _ := expr.Part(e, kid)
		x.kids = append(x.kids, treeOf(part))
	}
	return x
}

// P0.1, P10.1: lists of thousands of nodes, asked for at each of many steps.
func TestManyKids(t *testing.T) {
	w := rows(t, 500, 500, 3095)
	w.answers(t, read(t, "sum x in self#a: sum y in self#b: size(self#c) end end"), 1, 1<<20, come{v: number(500 * 500 * 3095), steps: 3 + 500*(4+500*4)})
	w.answers(t, read(t, "any x in self#a: any y in self#b: first(self#c) == none end end"), 1, 1<<20, come{err: api.ErrFuel})
	w.answers(t, read(t, "sum x in self#a: sum y in self#b: sum z in self#c: 1 end end end"), 1, 1<<20, come{err: api.ErrFuel})
	w.answers(t, read(t, "size(self!!Num) - size(self!!List)"), 1, 1<<20, come{v: number(4095), steps: 7 + 2*4095})
}

// P10.1: nodes that stand 64 deep.
func TestDeepModel(t *testing.T) {
	m := api.Model{Next: 65}
	for id := 1; id <= 64; id++ {
		n := api.Node{ID: id, Concept: "Num", Parent: id - 1, Role: "item"}
		if id == 1 {
			n.Role = ""
		}
		if id < 64 {
			n.Kids = []int{id + 1}
		}
		m.Nodes = append(m.Nodes, n)
	}
	w := newWorld(t, m)
	w.is(t, "size(self!!Num)", 1, "63, 66 steps")
	w.is(t, "sum x in self!!Item: id(x^) end", 1, "2016, 318 steps")
	w.is(t, "first(self#item)", 63, "@64, 3 steps")
	w.is(t, "size(self#item)", 64, "0, 3 steps")
}

// P10.1: texts that are just so long, as they are answered.
func TestLongTexts(t *testing.T) {
	long := strings.Repeat("t", 4096)
	w := items(t, long, long[1:])
	w.answers(t, read(t, "self.v"), 2, 9, come{v: words(long), steps: 2})
	w.answers(t, api.Expr{Nodes: []api.ENode{{Kind: api.EText, Text: long}}}, 2, 9, come{v: words(long), steps: 1})
	w.answers(t, read(t, `self.v + ""`), 2, 9, come{v: words(long), steps: 4})
	w.answers(t, read(t, `"t" + self.v`), 3, 9, come{v: words(long), steps: 4})
	w.answers(t, read(t, `"t" + self.v`), 2, 9, come{err: api.ErrLong})
	w.answers(t, read(t, `self.v + "tt"`), 3, 9, come{err: api.ErrLong})
}
