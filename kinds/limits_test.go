package kinds_test

import (
	"strings"
	"testing"

	"topiary/api"
	"topiary/expr"
	"topiary/kinds"
)

// isRefused asks that all calls tell an error of Right's, and nothing beside.
func isRefused(t *testing.T, e api.Expr, want api.Errno) {
	t.Helper()
	if err := expr.Right(e); err != want {
		t.Fatalf("Right of %d nodes: %d, not %d", len(e.Nodes), err, want)
	}
	if kind, at, err := kinds.Of(e); kind != 0 || at != 0 || err != want {
		t.Fatalf("Of of %d nodes: %d, %d, %d; not %d", len(e.Nodes), kind, at, err, want)
	}
	if l, at, err := kinds.Each(e); len(l) != 0 || at != 0 || err != want {
		t.Fatalf("Each of %d nodes: %v, %d, %d; not %d", len(e.Nodes), l, at, err, want)
	}
	if l, err := kinds.Free(e); len(l) != 0 || err != want {
		t.Fatalf("Free of %d nodes: %v, %d; not %d", len(e.Nodes), l, err, want)
	}
}

// asked asks all calls on a tree, whether it passes a limit or not.
func asked(t *testing.T, x tree) api.Errno {
	t.Helper()
	if x.tooGreat() {
		isRefused(t, x.expr(), api.ErrFull)
		return api.ErrFull
	}
	return asAgain(t, x.expr())
}

// hasKind asks that a tree has that kind, or that it passes a limit.
func hasKind(t *testing.T, x tree, want int) {
	t.Helper()
	if err := asked(t, x); err != api.OK && err != api.ErrFull {
		t.Fatalf("Of(%s): %d", text(x.expr()), err)
	}
	if kind, _, err := kinds.Of(x.expr()); err == api.OK && kind != want {
		t.Fatalf("Of(%s): %d, not %d", text(x.expr()), kind, want)
	}
}

// hasFault asks that the first wrong node of a tree is that one, or that it passes a limit.
func hasFault(t *testing.T, x tree, at int, want api.Errno) {
	t.Helper()
	asked(t, x)
	if _, place, err := kinds.Of(x.expr()); err != api.ErrFull && (place != at || err != want) {
		t.Fatalf("Of(%s): %d, %d; not %d, %d", text(x.expr()), place, err, at, want)
	}
}

var (
	one  = tree{kind: api.EInt, num: 1}
	yes  = tree{kind: api.ETrue}
	self = tree{kind: api.ESelf}
)

func of(kind int, kids ...tree) tree { return tree{kind: kind, kids: kids} }

// sum is a tree of an odd number of nodes, as flat as it can be, with that one as the last of its leaves.
func sum(n int, last tree) tree {
	if n == 1 {
		return last
	}
	left := (n-1)/2 | 1
	return of(api.EAdd, sum(left, one), sum(n-1-left, last))
}

// P9.1, P9.2: 256 nodes and one more.
func TestNodes(t *testing.T) {
	x := tree{kind: api.EVar, text: "x"}
	for n := 241; n < 270; n += 2 {
		if s := sum(n, one); s.size() != n || s.depth() > 12 {
			t.Fatalf("%d nodes, depth %d; not %d nodes", s.size(), s.depth(), n)
		}
		hasKind(t, sum(n, one), api.VInt)
		hasKind(t, of(api.EShow, sum(n, one)), api.VText)
		hasFault(t, of(api.ENot, sum(n, one)), 0, api.ErrKind)
		hasFault(t, sum(n, x), n-1, api.ErrVar)
		hasFault(t, of(api.EShow, sum(n, x)), n, api.ErrVar)
	}
	if err := asked(t, of(api.EShow, sum(255, one))); err != api.OK {
		t.Errorf("256 nodes: %d", err)
	}
	if err := asked(t, sum(257, one)); err != api.ErrFull {
		t.Errorf("257 nodes: %d", err)
	}
	isRefused(t, api.Expr{Nodes: make([]api.ENode, 1<<16)}, api.ErrFull)
}

// P9.1, P9.2: a depth of 32 and of one more, straight and in each kid of each Kind.
func TestDepth(t *testing.T) {
	for n := 28; n < 36; n++ {
		hasKind(t, chain(n, yes), api.VBool)
		hasFault(t, chain(n, one), n-1, api.ErrKind)
		hasFault(t, chain(n, tree{kind: api.EVar, text: "x"}), n, api.ErrVar)
		x := self
		for range n {
			x = of(api.EParent, x)
		}
		hasKind(t, x, api.VNode)
	}
	if err := asked(t, chain(31, yes)); err != api.OK {
		t.Errorf("a depth of 32: %d", err)
	}
	if err := asked(t, chain(32, yes)); err != api.ErrFull {
		t.Errorf("a depth of 33: %d", err)
	}
	for kind := api.EProp; kind <= api.ESum; kind++ {
		for i := range kidsOf(kind) {
			for deep := 29; deep < 35; deep++ {
				x := tree{kind: kind}
				if isNamed(kind) {
					x.text = "x"
				}
				for range kidsOf(kind) {
					x.kids = append(x.kids, yes)
				}
				x.kids[i] = chain(deep-2, yes)
				if x.depth() != deep {
					t.Fatalf("depth %d", x.depth())
				}
				asked(t, x)
			}
		}
	}
}

// chain is `not` that often ahead of what stands below.
func chain(n int, below tree) tree {
	for range n {
		below = of(api.ENot, below)
	}
	return below
}

// P9.1, P9.2: loops within one another, as deep as may be: all of one name, and each of its own.
func TestManyLoops(t *testing.T) {
	for n := 27; n < 34; n++ {
		for _, names := range []string{"x", "xyz", "abcdefghijklmnopqrstuvwABCDEFGHIJKLMNOPQRS"} {
			x := tree{kind: api.EIs, text: "A", kids: []tree{{kind: api.EVar, text: names[:1]}}}
			free := tree{kind: api.EIs, text: "A", kids: []tree{{kind: api.EVar, text: "free"}}}
			for i := n - 1; i >= 0; i-- {
				list := tree{kind: api.EKids, text: "a", kids: []tree{self}}
				if i > 0 {
					list.kids[0] = tree{kind: api.EVar, text: names[(i-1)%len(names):][:1]}
				}
				name := names[i%len(names):][:1]
				x = tree{kind: api.EAny, text: name, kids: []tree{list, x}}
				free = tree{kind: api.EAny, text: name, kids: []tree{list, free}}
			}
			hasKind(t, x, api.VBool)
			hasFault(t, free, 3*n+1, api.ErrVar)
		}
	}
}

// P9.2: as many variables as there can be.
func TestManyFree(t *testing.T) {
	var many func(names []string) tree
	many = func(names []string) tree {
		if len(names) == 1 {
			return tree{kind: api.EVar, text: names[0]}
		}
		half := len(names) / 2
		return of(api.EAdd, many(names[half:]), many(names[:half]))
	}
	var names []string
	for _, a := range "zyxwvutsrqponmlZYXWVUTSRQ" {
		for _, b := range "_9aA0" {
			names = append(names, string(a)+string(b))
		}
	}
	names = append(names, "z", "Z", "a")
	if many(names).size() != 255 {
		t.Fatalf("%d nodes", many(names).size())
	}
	asked(t, many(names))
	l, err := kinds.Free(many(names).expr())
	if err != api.OK || len(l) != 128 || l[0] != "Q0" || l[127] != "za" {
		t.Errorf("%v, %d", l, err)
	}
	for i := range names {
		names[i] = strings.Repeat("n", 31) + names[i][:1]
	}
	asked(t, many(names))
}

// P9.1, P9.2: lists of nodes that are no expression; Right's error ahead of all else.
func TestNoExpression(t *testing.T) {
	leaf := api.ENode{Kind: api.EInt, Int: 1}
	for _, l := range [][]api.ENode{
		nil,
		{},
		{{}},
		{{Kind: -1}},
		{{Kind: 35}},
		{{Kind: 1 << 40}},
		{{Kind: api.EInt, Text: "a"}},
		{{Kind: api.EInt, Int: -1 << 63}},
		{{Kind: api.EVar}},
		{{Kind: api.EVar, Text: "self"}},
		{{Kind: api.EVar, Text: "?x"}},
		{{Kind: api.EVar, Text: "x", Int: 1}},
		{{Kind: api.EText, Text: strings.Repeat("v", 4097)}},
		{leaf, leaf},
		{{Kind: api.ENot}},
		{{Kind: api.ENot, Kids: []int{1}}},
		{{Kind: api.ENot, Kids: []int{0}}},
		{{Kind: api.ENot, Kids: []int{-1}}, leaf},
		{{Kind: api.ENot, Kids: []int{1}}, {Kind: api.ENot, Kids: []int{0}}},
		{{Kind: api.EAdd, Kids: []int{1, 1}}, leaf},
		{{Kind: api.EAdd, Kids: []int{2, 1}}, leaf, leaf},
		{{Kind: api.EAdd, Kids: []int{1, 2}}, leaf, leaf, leaf},
		{{Kind: api.EAny, Kids: []int{1, 2}}, leaf, leaf},
		{{Kind: api.EAny, Text: "in", Kids: []int{1, 2}}, leaf, leaf},
		{{Kind: api.EIf, Kids: []int{1, 2}}, leaf, leaf},
		make([]api.ENode, 256),
	} {
		isRefused(t, api.Expr{Nodes: l}, api.ErrExpr)
	}
	isRefused(t, api.Expr{Nodes: make([]api.ENode, 257)}, api.ErrFull)
	// What is no tree is told ahead of a depth, a depth ahead of what is wrong.
	deep := chain(40, one).expr()
	isRefused(t, deep, api.ErrFull)
	deep.Nodes[40].Text = "a"
	isRefused(t, deep, api.ErrExpr)
	great := sum(257, tree{kind: api.EVar, text: "x"}).expr()
	great.Nodes[100].Kind = 0
	isRefused(t, great, api.ErrFull)
	// Lists that are nil and empty ones are the same.
	answers(t, api.Expr{Nodes: []api.ENode{{Kind: api.ENot, Kids: []int{1}}, {Kind: api.ETrue, Kids: []int{}}}}, []int{api.VBool, api.VBool}, 0, api.OK, nil)
}
