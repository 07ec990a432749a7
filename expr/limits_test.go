package expr_test

import (
	"math"
	"slices"
	"strings"
	"testing"

	"topiary/api"
	"topiary/expr"
)

// chain is `not` that often ahead of what stands below.
func chain(n int, below tree) tree {
	for range n {
		below = of(api.ENot, below)
	}
	return below
}

// bush is a tree of so many nodes, as flat as it can be.
func bush(n int) tree {
	switch n {
	case 1:
		return a
	case 2:
		return of(api.EParent, a)
	}
	half := (n - 1) / 2
	return of(api.EAdd, bush(half), bush(n-1-half))
}

// asks asks all calls on an expression that is a tree.
func asks(t *testing.T, x tree, s string) {
	t.Helper()
	if !x.tooGreat() {
		reads(t, s, x)
		if err := expr.Right(x.expr()); err != api.OK {
			t.Fatalf("Right of %d nodes, depth %d: %d", x.size(), x.depth(), err)
		}
		return
	}
	refuses(t, s, 0, api.ErrFull)
	isWrong(t, x.expr().Nodes, api.ErrFull)
}

// P8.1, P8.2: 256 nodes and one more, flat.
func TestNodes(t *testing.T) {
	for n := 240; n < 270; n++ {
		x := bush(n)
		if x.size() != n || x.depth() > 12 {
			t.Fatalf("a bush of %d nodes, depth %d", x.size(), x.depth())
		}
		asks(t, x, inBrackets(x))
	}
	asks(t, bush(2000), glued(pieces(strings.Repeat("(a+b)*", 600)+"a")))
	for _, s := range []string{"a", "-", "(", ")", "a.", ".a", "not ", "if ", "size(", "a+", "^", "1 "} {
		for _, n := range []int{100, 256, 257, 1000} {
			many := strings.Repeat(s, n)
			if len(many) <= 4096 {
				told(t, many, n <= 256)
			}
		}
	}
}

// P8.1, P8.2: a depth of 32 and of one more, in each place of each Kind.
func TestDepth(t *testing.T) {
	for n := 28; n < 36; n++ {
		asks(t, chain(n, a), strings.Repeat("not ", n)+"a")
	}
	for _, r := range rows {
		for i := range r.kids {
			for deep := 29; deep < 35; deep++ {
				x := tree{kind: r.kind}
				if r.named {
					x.text = "x"
				}
				for range r.kids {
					x.kids = append(x.kids, b)
				}
				x.kids[i] = chain(deep-2, a)
				if x.depth() != deep {
					t.Fatalf("depth %d", x.depth())
				}
				asks(t, x, inBrackets(x))
			}
		}
	}
	// A row is as deep as it is long, from the left.
	for n := 29; n < 35; n++ {
		x := a
		for range n - 1 {
			x = of(api.ESub, x, b)
		}
		asks(t, x, "a"+strings.Repeat(" - b", n-1))
		x = self
		for range n - 1 {
			x = of(api.EParent, x)
		}
		asks(t, x, "self"+strings.Repeat("^", n-1))
	}
}

// P8.1: brackets are no nodes, and no depth.
func TestManyBrackets(t *testing.T) {
	for _, n := range []int{1, 31, 32, 33, 256, 257, 2047} {
		open, shut := strings.Repeat("(", n), strings.Repeat(")", n)
		reads(t, open+"a"+shut, a)
		wrongAt(t, open+"a"+shut[1:], len(open)+len(shut))
		wrongAt(t, open+shut, n)
		wrongAt(t, open, n)
		if 2*n+2 <= 4096 {
			wrongAt(t, open+"a"+shut+")", 2*n+1)
		}
	}
	wrongAt(t, strings.Repeat("(", 4096), 4096)
	refuses(t, strings.Repeat("(", 2048)+"a"+strings.Repeat(")", 2048), 0, api.ErrLong)
}

// P8.1: what is no expression is told ahead of what is too great, wherever it stands.
func TestWrongAndGreat(t *testing.T) {
	long := strings.Repeat("(a+b)*", 300)
	refuses(t, long+"a", 0, api.ErrFull)
	wrongAt(t, long, len(long))
	wrongAt(t, long+"a)", len(long)+1)
	wrongAt(t, long+"a b", len(long)+2)
	deep := strings.Repeat("not ", 900)
	refuses(t, deep+"a", 0, api.ErrFull)
	wrongAt(t, deep, len(deep))
	wrongAt(t, deep+"a == b == c", len(deep)+7)
	refuses(t, deep+"a = b", len(deep)+3, api.ErrLex)
	refuses(t, strings.Repeat("a+", 2048)+"a", 0, api.ErrLong)
	refuses(t, strings.Repeat(")", 4097), 0, api.ErrLong)
}

// P8.1: a text of 4096 bytes and of one more.
func TestTextLength(t *testing.T) {
	for _, s := range []string{"a", "self.a + 1", `"x"`, "not a == b and c"} {
		e, _, _ := expr.Parse(s)
		for _, blank := range []string{" ", "\n"} {
			more := strings.Repeat(blank, 4096-len(s))
			for _, long := range []string{more + s, s + more} {
				if got, at, err := expr.Parse(long); err != api.OK || at != 0 || !same(got, e) {
					t.Errorf("%q and blanks: %d, %d", s, at, err)
				}
				refuses(t, long+blank, 0, api.ErrLong)
			}
		}
	}
	reads(t, `"`+strings.Repeat("v", 4094)+`"`, str(strings.Repeat("v", 4094)))
	refuses(t, `"`+strings.Repeat("v", 4095)+`"`, 0, api.ErrLong)
	wrongAt(t, strings.Repeat(" ", 4096), 4096)
	refuses(t, strings.Repeat(" ", 4097), 0, api.ErrLong)
}

// P8.3: an own text of 4096 bytes and of more, by one text, by its form, by many names.
func TestToldLength(t *testing.T) {
	for n := 4080; n <= 4096; n++ {
		for _, x := range []tree{str(strings.Repeat("v", n)), of(api.EAdd, str(strings.Repeat("v", n-10)), num(-1)), of(api.ESize, str(strings.Repeat("v", n-5)))} {
			tellsOrLong(t, x, ownText(x))
		}
	}
	for n := 1020; n < 1030; n++ {
		for _, s := range []string{"\x00", "\xff", "\n", "v"} {
			x := of(api.EEq, str(strings.Repeat(s, n)), str(strings.Repeat("\n", 4)))
			tellsOrLong(t, x, ownText(x))
		}
	}
	tells(t, str(strings.Repeat("v", 4094)), `"`+strings.Repeat("v", 4094)+`"`)
	isLong(t, str(strings.Repeat("v", 4095)))
	isLong(t, str(strings.Repeat("v", 4096)))
	isLong(t, str(strings.Repeat("\x00", 4096)))
	full := variable(strings.Repeat("n", 32))
	for n := 1; n <= 128; n++ {
		x, want := manyOf(full, n)
		tellsOrLong(t, x, want)
	}
	great := of(api.EEq, str(strings.Repeat("\x00", 4096)), chain(31, a))
	isWrong(t, great.expr().Nodes, api.ErrFull)
}

// manyOf is a flat sum of that often the same variable, and its own text.
func manyOf(x tree, n int) (tree, string) {
	if n == 1 {
		return x, x.text
	}
	left, l := manyOf(x, n-n/2)
	right, r := manyOf(x, n/2)
	if n/2 > 1 {
		r = "(" + r + ")"
	}
	return of(api.EAdd, left, right), l + " + " + r
}

func tellsOrLong(t *testing.T, x tree, want string) {
	t.Helper()
	if len(want) > 4096 {
		isLong(t, x)
		return
	}
	tells(t, x, want)
	reads(t, want, x)
}

// isLong asks that an expression is right, and too long to be told.
func isLong(t *testing.T, x tree) {
	t.Helper()
	if err := expr.Right(x.expr()); err != api.OK {
		t.Fatalf("Right: %d", err)
	}
	if s, err := expr.Print(x.expr()); err != api.ErrLong || s != "" {
		t.Fatalf("Print: %d bytes, %d", len(s), err)
	}
	if p, err := expr.Part(x.expr(), 0); err != api.OK || !same(p, x.expr()) {
		t.Fatalf("Part: %d", err)
	}
}

// P8.2: too many nodes are told ahead of nodes that are no tree, a wrong node ahead of a depth.
func TestOrderOfErrors(t *testing.T) {
	leaf := api.ENode{Kind: api.ESelf}
	isWrong(t, slices.Repeat([]api.ENode{leaf}, 256), api.ErrExpr)
	isWrong(t, slices.Repeat([]api.ENode{leaf}, 257), api.ErrFull)
	isWrong(t, make([]api.ENode, 256), api.ErrExpr)
	isWrong(t, make([]api.ENode, 257), api.ErrFull)
	isWrong(t, make([]api.ENode, 1<<16), api.ErrFull)
	deep := chain(40, a).expr().Nodes
	isWrong(t, deep, api.ErrFull)
	for i := range deep {
		l := chain(40, a).expr().Nodes
		l[i].Int = 1
		isWrong(t, l, api.ErrExpr)
		l = chain(40, a).expr().Nodes
		l[i].Kids = append(l[i].Kids, i)
		isWrong(t, l, api.ErrExpr)
	}
	isWrong(t, append(deep, leaf), api.ErrExpr)
	isWrong(t, deep[:40], api.ErrExpr)
	great := bush(257).expr().Nodes
	great[100].Kind = 0
	isWrong(t, great, api.ErrFull)
	great = bush(256).expr().Nodes
	great[255].Kind = 0
	isWrong(t, great, api.ErrExpr)
	isWrong(t, []api.ENode{{Kind: api.ENot, Kids: make([]int, 1<<20)}}, api.ErrExpr)
	ring := chain(255, a).expr().Nodes
	ring[255] = api.ENode{Kind: api.ENot, Kids: []int{0}}
	isWrong(t, ring, api.ErrExpr)
	// P8.4: Right's error ahead of a number outside.
	for _, at := range []int{math.MinInt, -1, 256, 257, math.MaxInt} {
		if _, err := expr.Part(api.Expr{Nodes: make([]api.ENode, 257)}, at); err != api.ErrFull {
			t.Errorf("Part(%d): %d", at, err)
		}
	}
}
