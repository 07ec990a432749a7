package machine_test

import (
	"math/rand/v2"
	"slices"
	"strings"
	"testing"

	"topiary/api"
	"topiary/code"
)

// A tree is an expression as one thing.
type tree struct {
	kind int
	text string
	num  int64
	kids []tree
}

// expr is the tree as a list.
func (x tree) expr() api.Expr {
	l := []api.ENode{{Kind: x.kind, Text: x.text, Int: x.num}}
	for _, kid := range x.kids {
		below := kid.expr().Nodes
		l[0].Kids = append(l[0].Kids, len(l))
		for i := range below {
			for k := range below[i].Kids {
				below[i].Kids[k] += len(l)
			}
		}
		l = append(l, below...)
	}
	return api.Expr{Nodes: l}
}

func (x tree) size() int {
	n := 1
	for _, kid := range x.kids {
		n += kid.size()
	}
	return n
}

func (x tree) depth() int {
	n := 0
	for _, kid := range x.kids {
		n = max(n, kid.depth())
	}
	return n + 1
}

// tooGreat tells whether the tree passes a limit.
func (x tree) tooGreat() bool { return x.size() > 256 || x.depth() > 32 }

// instead is the tree with another one in the place of the node with that number.
func (x tree) instead(at int, other tree) tree {
	if at == 0 {
		return other
	}
	x.kids = slices.Clone(x.kids)
	first := 1
	for i, kid := range x.kids {
		size := kid.size()
		if at < first+size {
			x.kids[i] = kid.instead(at-first, other)
			return x
		}
		first += size
	}
	panic("no such node")
}

// A form is one of the ways in which a Kind's node may have a kind.
type form struct {
	kind int // the Kind
	made int
	kids []int
}

// forms are those of chapter 9's table: expressions that are thrown keep to it for the most part, as else hardly one would come to a value.
var forms = []form{
	{api.EInt, api.VInt, nil}, {api.EText, api.VText, nil}, {api.ETrue, api.VBool, nil}, {api.EFalse, api.VBool, nil},
	{api.ESelf, api.VNode, nil}, {api.ENone, api.VNode, nil}, {api.EVar, api.VNode, nil},
	{api.EProp, api.VText, []int{api.VNode}}, {api.EConcept, api.VText, []int{api.VNode}},
	{api.EKids, api.VList, []int{api.VNode}}, {api.EAll, api.VList, []int{api.VNode}},
	{api.ERef, api.VNode, []int{api.VNode}}, {api.EParent, api.VNode, []int{api.VNode}},
	{api.EIs, api.VBool, []int{api.VNode}}, {api.EID, api.VInt, []int{api.VNode}},
	{api.ESize, api.VInt, []int{api.VList}}, {api.EFirst, api.VNode, []int{api.VList}},
	{api.EShow, api.VText, []int{api.VInt}}, {api.ERead, api.VInt, []int{api.VText}},
	{api.EAdd, api.VInt, []int{api.VInt, api.VInt}}, {api.EAdd, api.VText, []int{api.VText, api.VText}},
	{api.ESub, api.VInt, []int{api.VInt, api.VInt}}, {api.EMul, api.VInt, []int{api.VInt, api.VInt}},
	{api.EEq, api.VBool, []int{api.VInt, api.VInt}}, {api.EEq, api.VBool, []int{api.VText, api.VText}},
	{api.EEq, api.VBool, []int{api.VBool, api.VBool}}, {api.EEq, api.VBool, []int{api.VNode, api.VNode}},
	{api.ENe, api.VBool, []int{api.VInt, api.VInt}}, {api.ENe, api.VBool, []int{api.VText, api.VText}},
	{api.ENe, api.VBool, []int{api.VBool, api.VBool}}, {api.ENe, api.VBool, []int{api.VNode, api.VNode}},
	{api.ELt, api.VBool, []int{api.VInt, api.VInt}}, {api.ELt, api.VBool, []int{api.VText, api.VText}},
	{api.ELe, api.VBool, []int{api.VInt, api.VInt}}, {api.ELe, api.VBool, []int{api.VText, api.VText}},
	{api.EAnd, api.VBool, []int{api.VBool, api.VBool}}, {api.EOr, api.VBool, []int{api.VBool, api.VBool}}, {api.ENot, api.VBool, []int{api.VBool}},
	{api.EIf, api.VInt, []int{api.VBool, api.VInt, api.VInt}}, {api.EIf, api.VText, []int{api.VBool, api.VText, api.VText}},
	{api.EIf, api.VBool, []int{api.VBool, api.VBool, api.VBool}}, {api.EIf, api.VNode, []int{api.VBool, api.VNode, api.VNode}},
	{api.EIf, api.VList, []int{api.VBool, api.VList, api.VList}},
	{api.EAny, api.VBool, []int{api.VList, api.VBool}}, {api.EEvery, api.VBool, []int{api.VList, api.VBool}},
	{api.EOnly, api.VList, []int{api.VList, api.VBool}}, {api.ESum, api.VInt, []int{api.VList, api.VInt}},
}

// A dice throws the same on every run.
type dice struct{ *rand.Rand }

func newDice(seed uint64) dice { return dice{rand.New(rand.NewPCG(seed, 12))} }

func pick[E any](d dice, l ...E) E { return l[d.IntN(len(l))] }

// leaf is the tree of a Kind, without its kids; its names are mostly such as the thrown models have.
func (d dice) leaf(kind int) tree {
	x := tree{kind: kind}
	switch kind {
	case api.EInt:
		x.num = pick(d, 0, 1, 2, 3, 5, -1, -7, 1<<32, 1<<62, -1<<62, 1<<63-1, -1<<63+1, int64(d.IntN(20)))
	case api.EText:
		x.text = pick(d, "", "x", "5", "-7", "9223372036854775807", "05", "a\x00", "a\xff", strings.Repeat("t", 2048), strings.Repeat("t", 4096))
	case api.EVar, api.EAny, api.EEvery, api.EOnly, api.ESum:
		x.text = pick(d, "x", "y", "item")
	case api.EProp:
		x.text = pick(d, "v", "v", "name", "w")
	case api.EKids:
		x.text = pick(d, "item", "item", "item", "sub", "x")
	case api.ERef:
		x.text = pick(d, "to", "to", "up")
	case api.EIs, api.EAll:
		x.text = pick(d, "Item", "Item", "Item", "Num", "Sum", "List", "Other")
	}
	return x
}

// of is a tree of that kind of values, of about so many nodes, and at most so deep (lists a little deeper), in which nothing is free but those variables.
func (d dice) of(value, size, depth int, vars []string) tree {
	var fit []form
	for _, f := range forms {
		leaf := len(f.kids) == 0 || value == api.VList
		if f.made == value && (f.kind != api.EVar || len(vars) > 0) && (leaf || size > 1 && depth > 1) {
			fit = append(fit, f)
		}
	}
	if value == api.VList && (size <= 2 || depth <= 2) {
		fit = slices.DeleteFunc(fit, func(f form) bool { return f.kind != api.EKids && f.kind != api.EAll })
	} else if size > 3 && depth > 2 && d.IntN(8) > 0 {
		fit = slices.DeleteFunc(fit, func(f form) bool { return len(f.kids) == 0 })
	}
	f := pick(d, fit...)
	// What a loop binds is what most hangs on; and where there is no node, all comes to the same error.
	switch {
	case value == api.VNode && len(vars) > 0 && d.IntN(3) > 0:
		f = form{api.EVar, api.VNode, nil}
	case f.kind == api.ENone || value == api.VNode && d.IntN(2) == 0:
		f = form{pick(d, api.ESelf, api.ESelf, api.ESelf, api.ESelf, api.ENone), api.VNode, nil}
	}
	x := d.leaf(f.kind)
	if f.kind == api.EVar {
		x.text = pick(d, vars...)
	}
	for i, kid := range f.kids {
		inside := vars
		if i == 1 && isLoop(f.kind) {
			inside = append(slices.Clone(vars), x.text)
		}
		x.kids = append(x.kids, d.of(kid, (size-1)/len(f.kids)+d.IntN(2), depth-1, inside))
	}
	return x
}

// any is a tree of about so many nodes, and at most so deep, whatever the kinds of its kids.
func (d dice) any(size, depth int) tree {
	f := pick(d, forms...)
	for (len(f.kids) > 0) != (size > 1 && depth > 1) {
		f = pick(d, forms...)
	}
	x := d.leaf(f.kind)
	for range f.kids {
		x.kids = append(x.kids, d.any((size-1)/len(f.kids), depth-1))
	}
	return x
}

// changed is the tree with a few of its nodes instead of which others stand.
func (d dice) changed(x tree) tree {
	for range 1 + d.IntN(3) {
		at := d.IntN(x.size())
		if d.IntN(2) == 0 {
			x = x.instead(at, d.any(1+d.IntN(5), 3))
		} else {
			x = x.instead(at, d.of(1+d.IntN(5), 1+d.IntN(4), 3, []string{"x", "y"}))
		}
	}
	return x
}

// model is a right model of about so many nodes, some of which went again.
func (d dice) model(size int) api.Model {
	m := api.Model{Next: size + 1}
	for id := 1; id <= size; id++ {
		n := api.Node{ID: id, Concept: pick(d, "Num", "Num", "Sum", "Neg", "List", "Other", "Item", "?Kept")}
		if len(m.Nodes) > 0 && d.IntN(10) > 0 {
			n.Parent = pick(d, m.Nodes...).ID
			n.Role = pick(d, "item", "item", "item", "sub", "?kept")
		}
		for _, name := range []string{"name", "v", "w"} {
			if d.IntN(3) > 0 {
				value := pick(d, "", "5", "5", "7", "-3", "x", "9223372036854775807", "-9223372036854775808", strings.Repeat("p", 2049))
				n.Props = append(n.Props, api.Prop{Name: name, Value: value})
			}
		}
		for _, role := range []string{"to", "up"} {
			if d.IntN(5) > 0 {
				n.Refs = append(n.Refs, api.Ref{Role: role, Target: 1 + d.IntN(size)})
			}
		}
		// A number that is left out is that of a node that went, to which references may still be.
		if d.IntN(8) > 0 {
			m.Nodes = append(m.Nodes, n)
		}
	}
	for i, n := range m.Nodes {
		for _, k := range d.Perm(len(m.Nodes)) {
			if m.Nodes[k].Parent == n.ID {
				m.Nodes[i].Kids = append(m.Nodes[i].Kids, m.Nodes[k].ID)
			}
		}
	}
	return m
}

// nodeOf is a node of the model, mostly one with kids, or 0.
func (d dice) nodeOf(m api.Model) int {
	over := slices.DeleteFunc(slices.Clone(m.Nodes), func(n api.Node) bool { return len(n.Kids) == 0 })
	switch {
	case len(m.Nodes) == 0 || d.IntN(20) == 0:
		return 0
	case len(over) > 0 && d.IntN(4) > 0:
		return pick(d, over...).ID
	}
	return pick(d, m.Nodes...).ID
}

func isLoop(kind int) bool {
	return slices.Contains([]int{api.EAny, api.EEvery, api.EOnly, api.ESum}, kind)
}

// compiled is the code of a tree.
func compiled(t *testing.T, x tree) []api.Ins {
	t.Helper()
	c, err := code.Compile(x.expr())
	if err != api.OK {
		t.Fatal(err)
	}
	return c.List
}

// ins is an instruction thrown by the dice, of code of so many.
func (d dice) ins(places int) api.Ins {
	n := api.Ins{Op: 1 + d.IntN(code.OpTake)}
	switch word := wordOf(n.Op); {
	case word == "step":
		n.Arg = 1 + d.IntN(4)
	case word == "load":
		n.Arg = d.IntN(3)
	case hasPlace(n):
		n.Arg = d.IntN(places + 2)
	case word == "int":
		n.Int = d.leaf(api.EInt).num
	case word == "text":
		n.Text = d.leaf(api.EText).text
	case is(word, "prop kids ref is all"):
		kinds := map[string]int{"prop": api.EProp, "kids": api.EKids, "ref": api.ERef, "is": api.EIs, "all": api.EAll}
		n.Text = d.leaf(kinds[word]).text
	}
	return n
}

// hasPlace tells whether an instruction has a place.
func hasPlace(n api.Ins) bool { return is(wordOf(n.Op), "and or unless jump next take") }

// with is the instructions with some more at a place, and all that lead behind it lead to where they led.
func with(l []api.Ins, at int, more ...api.Ins) []api.Ins {
	out := slices.Clone(l)
	for i, n := range out {
		if hasPlace(n) && n.Arg > at {
			out[i].Arg += len(more)
		}
	}
	return slices.Insert(out, at, more...)
}

// without is the instructions without that at a place, and all that lead behind it lead to where they led.
func without(l []api.Ins, at int) []api.Ins {
	out := slices.Delete(slices.Clone(l), at, at+1)
	for i, n := range out {
		if hasPlace(n) && n.Arg > at {
			out[i].Arg--
		}
	}
	return out
}

// edited is the instructions with one thing changed; they may be right still.
func (d dice) edited(l []api.Ins) []api.Ins {
	l = slices.Clone(l)
	at := d.IntN(len(l))
	switch d.IntN(8) {
	case 0:
		l[at].Arg += pick(d, -2, -1, 1, 2)
	case 1:
		l[at].Op = d.ins(0).Op
	case 2:
		l[at] = d.ins(len(l))
	case 3:
		l = without(l, at)
	case 4:
		l = with(l, at, l[d.IntN(len(l))])
	case 5:
		l = with(l, at, d.ins(len(l)))
	case 6:
		l = with(l, at, d.ins(len(l)), d.ins(len(l)))
	case 7:
		other := d.IntN(len(l))
		l[at], l[other] = l[other], l[at]
	}
	return l
}

// grown is code that is right, and hardly any expression's: an expression's, with so many changes after which it was right still.
func (d dice) grown(l []api.Ins, changes int) []api.Ins {
	for range changes {
		if next := d.edited(l); isRight(next) {
			l = next
		}
	}
	return l
}

func isRight(l []api.Ins) bool {
	_, err := code.Right(api.Code{List: l})
	return err == api.OK
}
