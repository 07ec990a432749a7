package kinds_test

import (
	"slices"
	"strings"
	"testing"

	"topiary/api"
	"topiary/expr"
	"topiary/kinds"
)

// read is the expression of a text.
func read(t *testing.T, s string) api.Expr {
	t.Helper()
	e, at, err := expr.Parse(s)
	if err != api.OK {
		t.Fatalf("Parse(%.300q): %d, %d", s, at, err)
	}
	return e
}

// answers asks what Of, Each and Free are to tell of an expression that is right.
func answers(t *testing.T, e api.Expr, each []int, at int, err api.Errno, free []string) {
	t.Helper()
	whole := 0
	if len(each) > 0 {
		whole = each[0]
	}
	if kind, place, got := kinds.Of(e); kind != whole || place != at || got != err {
		t.Fatalf("Of(%s): %d, %d, %d; not %d, %d, %d", text(e), kind, place, got, whole, at, err)
	}
	if l, place, got := kinds.Each(e); !slices.Equal(l, each) || place != at || got != err {
		t.Fatalf("Each(%s): %v, %d, %d; not %v, %d, %d", text(e), l, place, got, each, at, err)
	}
	if l, got := kinds.Free(e); !slices.Equal(l, free) || got != api.OK {
		t.Fatalf("Free(%s): %v, %d; not %v", text(e), l, got, free)
	}
}

// text is what a test tells of an expression.
func text(e api.Expr) string {
	s, err := expr.Print(e)
	if err != api.OK {
		return err.Error()
	}
	return s
}

// asAgain asks that all calls answer what the slow way does, and answers whether the expression has a kind.
func asAgain(t *testing.T, e api.Expr) api.Errno {
	t.Helper()
	each, at, err := told(e.Nodes)
	answers(t, e, each, at, err, freeOf(e.Nodes))
	return err
}

// isOf asks that the text's expression has that kind.
func isOf(t *testing.T, s string, kind int) {
	t.Helper()
	e := read(t, s)
	if got, at, err := kinds.Of(e); got != kind || at != 0 || err != api.OK {
		t.Fatalf("Of(%s): %d, %d, %d; not %d", s, got, at, err, kind)
	}
	asAgain(t, e)
}

// isWrong asks that the first wrong node of the text's expression is that one.
func isWrong(t *testing.T, s string, at int, err api.Errno) {
	t.Helper()
	e := read(t, s)
	if got, place, told := kinds.Of(e); got != 0 || place != at || told != err {
		t.Fatalf("Of(%s): %d, %d, %d; not %d, %d", s, got, place, told, at, err)
	}
	asAgain(t, e)
}

// eachIs asks for the kinds of all nodes of the text's expression.
func eachIs(t *testing.T, s string, want ...int) {
	t.Helper()
	e := read(t, s)
	if l, at, err := kinds.Each(e); !slices.Equal(l, want) || at != 0 || err != api.OK {
		t.Fatalf("Each(%s): %v, %d, %d; not %v", s, l, at, err, want)
	}
	asAgain(t, e)
}

// freeIs asks for the free variables of the text's expression.
func freeIs(t *testing.T, s string, want ...string) {
	t.Helper()
	e := read(t, s)
	if l, err := kinds.Free(e); !slices.Equal(l, want) || err != api.OK {
		t.Fatalf("Free(%s): %v, %d; not %v", s, l, err, want)
	}
	asAgain(t, e)
}

// P9.1, P9.2: the chapter's examples.
func TestExamples(t *testing.T) {
	isOf(t, "1 + 2", api.VInt)
	isOf(t, `"a" + "b"`, api.VText)
	isOf(t, "self#item", api.VList)
	isOf(t, "first(self#item).name", api.VText)
	isOf(t, "none == self", api.VBool)
	isWrong(t, `1 + "a"`, 0, api.ErrKind)
	isWrong(t, "x", 0, api.ErrVar)
	isWrong(t, "self.v + 1", 0, api.ErrKind)
	isWrong(t, "not 1", 0, api.ErrKind)
	isWrong(t, "self#a == self#a", 0, api.ErrKind)
	isOf(t, `"a" < "b"`, api.VBool)
	isWrong(t, "true < false", 0, api.ErrKind)
	isOf(t, `any x in self#item: x.v == "1" end`, api.VBool)
	isWrong(t, "any x in x#item: true end", 2, api.ErrVar)
	isWrong(t, "if 1 then x else 2 end", 2, api.ErrVar)
	isOf(t, "sum x in self!!A: sum y in x#b: id(y) end end", api.VInt)
	eachIs(t, "size(self#a) < 2", api.VBool, api.VInt, api.VList, api.VNode, api.VInt)
	freeIs(t, "x.a + (any y in z: y == x end)", "x", "z")
}

// ofKind are texts of expressions of each kind of values.
var ofKind = map[int][]string{
	api.VInt:  {"1", "-5", "size(self#a)"},
	api.VText: {`"a"`, "self.a", `""`},
	api.VBool: {"true", "false", "self?A"},
	api.VNode: {"self", "none", "self^"},
	api.VList: {"self#a", "self!!A"},
}

// P9.1: each Kind with kids of all kinds, in all ways.
func TestTable(t *testing.T) {
	count := map[api.Errno]int{}
	for kind := api.EInt; kind <= api.ESum; kind++ {
		if kind == api.EVar {
			continue
		}
		for _, values := range waysOf(kidsOf(kind)) {
			for k := range 3 {
				x := tree{kind: kind}
				if isNamed(kind) {
					x.text = "x"
				}
				want := 0
				for _, f := range formsOf(kind) {
					if slices.Equal(f.kids, values) {
						want = f.made
					}
				}
				for i, v := range values {
					l := ofKind[v]
					x.kids = append(x.kids, treeAt(read(t, l[(i+k)%len(l)]).Nodes, 0))
				}
				got, at, err := kinds.Of(x.expr())
				if got != want || at != 0 || (err == api.OK) != (want > 0) || (err == api.ErrKind) != (want == 0) {
					t.Fatalf("Of(%s): %d, %d, %d; not %d", text(x.expr()), got, at, err, want)
				}
				count[asAgain(t, x.expr())]++
			}
		}
	}
	if count[api.OK] < 100 || count[api.ErrKind] < 500 {
		t.Errorf("%v", count)
	}
}

// waysOf are all rows of so many kinds of values.
func waysOf(n int) [][]int {
	if n == 0 {
		return [][]int{nil}
	}
	var out [][]int
	for _, l := range waysOf(n - 1) {
		for v := api.VInt; v <= api.VList; v++ {
			out = append(out, append(slices.Clone(l), v))
		}
	}
	return out
}

// P9.1: what may be compared, and added.
func TestCompared(t *testing.T) {
	for v, l := range ofKind {
		for _, sign := range []string{"==", "!="} {
			if v == api.VList {
				isWrong(t, l[0]+sign+l[1], 0, api.ErrKind)
			} else {
				isOf(t, l[0]+sign+l[1], api.VBool)
			}
		}
		for _, sign := range []string{"<", "<="} {
			if v == api.VInt || v == api.VText {
				isOf(t, l[0]+sign+l[1], api.VBool)
			} else {
				isWrong(t, l[0]+sign+l[1], 0, api.ErrKind)
			}
		}
		if v == api.VInt || v == api.VText {
			isOf(t, l[0]+"+"+l[1], v)
		} else {
			isWrong(t, l[0]+"+"+l[1], 0, api.ErrKind)
		}
		isOf(t, "if true then "+l[0]+" else "+l[1]+" end", v)
		for other, m := range ofKind {
			if other != v {
				isWrong(t, "if true then "+l[0]+" else "+m[0]+" end", 0, api.ErrKind)
				isWrong(t, l[0]+" == "+m[0], 0, api.ErrKind)
				isWrong(t, l[0]+" < "+m[0], 0, api.ErrKind)
				isWrong(t, l[0]+" + "+m[0], 0, api.ErrKind)
			}
		}
	}
	isWrong(t, `"a" - "b"`, 0, api.ErrKind)
	isWrong(t, `"a" * "b"`, 0, api.ErrKind)
	isOf(t, `"a" + "b" + "c" == "abc"`, api.VBool)
	isWrong(t, `1 + 2 + "c"`, 0, api.ErrKind)
	isWrong(t, `"a" + 1 + 2`, 1, api.ErrKind)
}

// P9.1, P9.2: where a variable is bound, and where it is not.
func TestBound(t *testing.T) {
	for _, loop := range []string{"any", "every", "only", "sum"} {
		body, kind := "x?A", api.VBool
		switch loop {
		case "only":
			kind = api.VList
		case "sum":
			body, kind = "id(x)", api.VInt
		}
		isOf(t, loop+" x in self#a: "+body+" end", kind)
		freeIs(t, loop+" x in self#a: "+body+" end")
		// The list is outside.
		isWrong(t, loop+" x in x#a: "+body+" end", 2, api.ErrVar)
		freeIs(t, loop+" x in x#a: "+body+" end", "x")
		freeIs(t, loop+" x in x: "+body+" end", "x")
		// One of another name binds nothing, and a loop's name alone is no variable at all.
		isWrong(t, loop+" y in self#a: "+body+" end", 4, api.ErrVar)
		freeIs(t, loop+" y in self#a: "+body+" end", "x")
		// Behind the loop, and ahead of it, nothing is bound.
		isWrong(t, "("+loop+" x in self#a: "+body+" end) == id(x)", len(read(t, loop+" x in self#a: "+body+" end").Nodes)+2, api.ErrVar)
		freeIs(t, "x == ("+loop+" x in self#a: "+body+" end)", "x")
	}
	// The second kid of what is no loop binds nothing.
	isWrong(t, "self.x == x.x", 4, api.ErrVar)
	isWrong(t, "if true then self else x end", 3, api.ErrVar)
	// A property, a role, a concept of that name is no variable.
	freeIs(t, `self.x + "x" + concept(self#x->x!!x)`)
}

// P9.1, P9.2: variables that are bound twice.
func TestBoundTwice(t *testing.T) {
	// Within one another: the inner one's list and what stands behind it are bound by the outer one.
	isOf(t, "any x in self#a: (any x in x#b: x?A end) and x?B end", api.VBool)
	isOf(t, "any x in self#a: any x in x#b: any x in x#c: x?A end and x?B end and x?C end", api.VBool)
	freeIs(t, "any x in self#a: (any x in x#b: x?A end) and x?B end")
	isWrong(t, "(any x in self#a: (any x in x#b: x?A end) and x?B end) and x?C", 13, api.ErrVar)
	freeIs(t, "(any x in self#a: (any x in x#b: x?A end) and x?B end) and x?C", "x")
	// In the outer one's list: there the outer one binds nothing, and the inner one nothing behind itself.
	isOf(t, "any x in (only x in self#a: x?A end): x?B end", api.VBool)
	isWrong(t, "any x in (only x in x#a: x?A end): x?B end", 3, api.ErrVar)
	isWrong(t, "any y in (only x in self#a: x?A end): x?B end", 7, api.ErrVar)
	// One behind the other.
	isOf(t, "(any x in self#a: x?A end) and (every x in self#b: x?B end)", api.VBool)
	isWrong(t, "(any x in self#a: x?A end) and (every x in x#b: x?B end)", 8, api.ErrVar)
	freeIs(t, "(any x in self#a: y?A end) and (every y in self#b: x?B end)", "x", "y")
	// Of two names, in turn.
	isOf(t, "any x in self#a: any y in x#b: any x in y#c: x == y end and x == y end and x?A end", api.VBool)
	isWrong(t, "any x in self#a: (any y in x#b: x == y end) and y?A end", 11, api.ErrVar)
}

// P9.1: of several wrong nodes the first one, a node's kids being ahead of it.
func TestFirstWrong(t *testing.T) {
	// Both kids of a node, in order; and the node itself, which would be wrong without them.
	isWrong(t, "x + y", 1, api.ErrVar)
	isWrong(t, "(not 1) + y", 1, api.ErrKind)
	isWrong(t, "x and (not 1)", 1, api.ErrVar)
	isWrong(t, "1 and (not 1)", 2, api.ErrKind)
	isWrong(t, `1 + ("a" + x)`, 4, api.ErrVar)
	isWrong(t, `1 + ("a" + 1)`, 2, api.ErrKind)
	isWrong(t, `1 + ("a" + "b")`, 0, api.ErrKind)
	// A smaller number, but behind.
	isWrong(t, "not (1 + true)", 1, api.ErrKind)
	isWrong(t, "size(first(x))", 2, api.ErrVar)
	isWrong(t, "size(first(1))", 1, api.ErrKind)
	isWrong(t, "size(first(self#a))", 0, api.ErrKind)
	// The whole deep in the first kid, and the second kid.
	isWrong(t, "(1 == (2 == (3 + self))) and x", 5, api.ErrKind)
	isWrong(t, "(1 == (2 == 3)) and x", 1, api.ErrKind)
	// In the three kids of one.
	isWrong(t, "if x then y else z end", 1, api.ErrVar)
	isWrong(t, "if 1 then y else z end", 2, api.ErrVar)
	isWrong(t, "if 1 then 2 else z end", 3, api.ErrVar)
	isWrong(t, "if 1 then 2 else 3 end", 0, api.ErrKind)
	isWrong(t, "if true then 2 else not 3 end", 3, api.ErrKind)
	// In a loop's list ahead of what it asks.
	isWrong(t, "any x in size(1): y end", 1, api.ErrKind)
	isWrong(t, "any x in 1: y end", 2, api.ErrVar)
	isWrong(t, "any x in 1: x end", 0, api.ErrKind)
	isWrong(t, "any x in self#a: x end", 0, api.ErrKind)
	isWrong(t, "sum x in self#a: true end", 0, api.ErrKind)
	isWrong(t, "only x in self#a: 1 end", 0, api.ErrKind)
	isWrong(t, "every x in self: true end", 0, api.ErrKind)
}

// P9.2: the free variables, rising byte by byte, each once.
func TestFree(t *testing.T) {
	freeIs(t, "1")
	freeIs(t, "x", "x")
	freeIs(t, "x + x == x", "x")
	freeIs(t, "b + a + c + a + b", "a", "b", "c")
	freeIs(t, "xa + x_ + xA + x0 + x + X + Z9 + Xx + xaa", "X", "Xx", "Z9", "x", "x0", "xA", "x_", "xa", "xaa")
	freeIs(t, strings.Repeat("n", 32)+" + "+strings.Repeat("n", 31)+" + "+strings.Repeat("N", 32), strings.Repeat("N", 32), strings.Repeat("n", 31), strings.Repeat("n", 32))
	// Free at one place, bound at another one, ahead of it or behind.
	freeIs(t, "x?A and (any x in self#a: x?A end)", "x")
	freeIs(t, "(any x in self#a: x?A end) and x?A", "x")
	freeIs(t, "any x in x#a: x?A end", "x")
	freeIs(t, "any x in self#a: x == y and (any y in x#b: y == z end) end", "y", "z")
	// What is wrong but for that is not asked.
	freeIs(t, "not 1")
	freeIs(t, "size(1) + x", "x")
	freeIs(t, "any x in 1: x + y end", "y")
	freeIs(t, "if a then b else c end", "a", "b", "c")
}

// P9.1, P9.2: all trees of two levels, over a few leaves.
func TestAllSmallTrees(t *testing.T) {
	leaves := []tree{{kind: api.EInt, num: 1}, {kind: api.EText, text: "x"}, {kind: api.ETrue}, {kind: api.ESelf}, {kind: api.EVar, text: "x"}, {kind: api.EVar, text: "y"}}
	list := tree{kind: api.EKids, text: "x", kids: []tree{{kind: api.ESelf}}}
	small := grown([]tree{{kind: api.ETrue}, {kind: api.EVar, text: "x"}, list})
	count := map[api.Errno]int{}
	for _, kids := range [][]tree{append(leaves, list), small} {
		for _, x := range grown(kids) {
			count[asAgain(t, x.expr())]++
		}
	}
	if count[api.OK] < 100 || count[api.ErrVar] < 1000 || count[api.ErrKind] < 1000 {
		t.Errorf("%v", count)
	}
}

// grown are the trees of which each kid is one of those; of three kids the third one is the same as the second one, or the first one of those.
func grown(kids []tree) []tree {
	var out []tree
	for kind := api.EProp; kind <= api.ESum; kind++ {
		x := tree{kind: kind}
		if isNamed(kind) {
			x.text = "x"
		}
		for _, a := range kids {
			if kidsOf(kind) == 1 {
				x.kids = []tree{a}
				out = append(out, x)
				continue
			}
			for _, b := range kids {
				x.kids = []tree{a, b}
				if kidsOf(kind) == 3 {
					x.kids = []tree{a, b, b}
					out = append(out, x)
					x.kids = []tree{a, b, kids[0]}
				}
				out = append(out, x)
			}
		}
	}
	return out
}
