package code_test

import (
	"slices"
	"strings"
	"testing"

	"topiary/api"
	"topiary/code"
)

// padded is code of so many instructions, right, of any that take none and leave none.
func padded(n int) []api.Ins {
	l := []api.Ins{{Op: code.OpSelf}}
	for len(l) < n {
		l = append(l, api.Ins{Op: []int{code.OpNot, code.OpTruth, code.OpParent}[len(l)%3]})
	}
	return l
}

// P11.2, P11.3, P11.4: 1024 instructions and one more, whatever they are.
func TestInstructions(t *testing.T) {
	for n := 1020; n <= 1024; n++ {
		isCode(t, padded(n))
		l := padded(n)
		l[n-1] = api.Ins{Op: code.OpAdd}
		isNone(t, l, n-1, api.ErrCode)
		l[n-1] = api.Ins{Op: code.OpFree}
		isNone(t, l, n, api.ErrCode)
		isNone(t, make([]api.Ins, n), 0, api.ErrCode)
	}
	for _, n := range []int{1025, 1026, 2048, 1 << 16} {
		isNone(t, padded(n), 0, api.ErrFull)
		isNone(t, make([]api.Ins, n), 0, api.ErrFull)
		l := padded(n)
		l[5] = api.Ins{Op: code.OpAdd}
		isNone(t, l, 0, api.ErrFull)
		// A line that is none is told ahead of how many there are.
		refuses(t, textOf(padded(n))+"x\n", n)
		refuses(t, textOf(padded(n))+"self", n)
	}
	refuses(t, textOf(padded(1024))+"x\n", 1024)
	// As many lines as there can be.
	most := strings.Repeat("or 5\n", 1<<20/5)
	if c, at, err := code.Parse(most); len(c.List) > 0 || at != 0 || err != api.ErrFull {
		t.Errorf("%d, %d", at, err)
	}
	if c, at, err := code.Parse(most + "\n"); len(c.List) > 0 || at != 1<<20/5 || err != api.ErrCode {
		t.Errorf("%d, %d", at, err)
	}
	if c, at, err := code.Parse(strings.Repeat("\n", 1<<20)); len(c.List) > 0 || at != 0 || err != api.ErrCode {
		t.Errorf("%d, %d", at, err)
	}
}

// nested is so many loops within one another, with some instructions in the innermost one's body.
func nested(deep int, body ...api.Ins) []api.Ins {
	var l []api.Ins
	whole := 4*deep + len(body)
	for i := range deep {
		l = append(l, api.Ins{Op: code.OpSelf}, api.Ins{Op: code.OpAny + i%4}, api.Ins{Op: code.OpNext, Arg: whole - i})
	}
	l = append(l, body...)
	for i := range deep {
		l = append(l, api.Ins{Op: code.OpTake, Arg: 3*(deep-i) - 1})
	}
	return l
}

// P11.2: as many loops within one another as there can be, and what load tells of them.
func TestManyLoops(t *testing.T) {
	for _, deep := range []int{1, 2, 3, 64, 254, 255} {
		for _, n := range []int{0, 1, deep / 2, deep - 1} {
			if n < deep {
				isCode(t, nested(deep, api.Ins{Op: code.OpLoad, Arg: n}))
			}
		}
		l := nested(deep, api.Ins{Op: code.OpLoad, Arg: deep})
		isNone(t, l, 3*deep, api.ErrCode)
		l = nested(deep, api.Ins{Op: code.OpTrue})
		asAgain(t, l)
		last := len(l) - 1
		l[last].Arg += 3
		isNone(t, l, last, api.ErrCode)
	}
	if n := len(nested(255, padded(4)...)); n != 1024 {
		t.Fatalf("%d instructions", n)
	}
	isCode(t, nested(255, padded(4)...))
	isNone(t, nested(255, padded(5)...), 0, api.ErrFull)
}

// P11.2: as many jumps to one place as there can be, and values above one another.
func TestManyJumps(t *testing.T) {
	l := []api.Ins{{Op: code.OpTrue}}
	for len(l) < 1023 {
		l = append(l, api.Ins{Op: code.OpAnd, Arg: 1023}, api.Ins{Op: code.OpTrue})
	}
	l = append(l, api.Ins{Op: code.OpNot})
	isCode(t, l)
	for _, at := range []int{1, 3, 511, 1021} {
		for _, arg := range []int{at, 1025, 1 << 62} {
			other := slices.Clone(l)
			other[at].Arg = arg
			isNone(t, other, at, api.ErrCode)
		}
		// The end is led to with the same height; so the last of all is all that differs.
		other := slices.Clone(l)
		other[at].Arg = 1024
		isCode(t, other)
		other[1023].Op = code.OpUnless
		other[1023].Arg = 1024
		isNone(t, other, 1023, api.ErrCode)
	}
	var high []api.Ins
	for range 512 {
		high = append(high, api.Ins{Op: code.OpInt, Int: 1})
	}
	for range 511 {
		high = append(high, api.Ins{Op: code.OpAdd})
	}
	isCode(t, high)
	isNone(t, append(high, api.Ins{Op: code.OpAdd}), 1023, api.ErrCode)
}

// P11.1, P11.6: the greatest expressions, and the deepest.
func TestGreatestExpressions(t *testing.T) {
	count := map[bool]int{}
	for kind := api.EInt; kind <= api.ESum; kind++ {
		for _, size := range []int{254, 255, 256, 257, 258} {
			for depth := 9; depth < 36; depth++ {
				x := great(kind, size, depth)
				count[x.tooGreat()]++
				askedTree(t, x)
			}
		}
	}
	if count[true] < 500 || count[false] < 500 {
		t.Errorf("%v", count)
	}
	// What makes the most instructions of its nodes.
	x := tree{kind: api.ESelf}
	for range 31 {
		x = tree{kind: api.ESum, text: "x", kids: []tree{x, {kind: api.EVar, text: "x"}}}
	}
	askedTree(t, x)
	y := tree{kind: api.EVar, text: "x"}
	for range 31 {
		y = tree{kind: api.ESum, text: "x", kids: []tree{{kind: api.EVar, text: "x"}, y}}
	}
	askedTree(t, y)
}

// great is a tree of at most so many nodes, and so deep, with a node of that Kind at the top, as many kids below it of that Kind as there can be.
func great(kind, size, depth int) tree {
	if size < 1+kidsOf(kind) || depth < 2 || kidsOf(kind) == 0 {
		return tree{kind: api.EVar, text: "x"}
	}
	x := tree{kind: kind}
	if isNamed(kind) {
		x.text = "x"
	}
	left := size - 1
	for i := range kidsOf(kind) {
		share := left / (kidsOf(kind) - i)
		kid := great(kind, share, depth-1)
		left -= kid.size()
		x.kids = append(x.kids, kid)
	}
	return x
}

// askedTree asks Compile of a tree, whether it passes a limit or not, and all that holds of its code.
func askedTree(t *testing.T, x tree) api.Errno {
	t.Helper()
	e := x.expr()
	if x.tooGreat() {
		if c, err := code.Compile(e); len(c.List) > 0 || err != api.ErrFull {
			t.Fatalf("Compile of %d nodes: %d instructions, %d", len(e.Nodes), len(c.List), err)
		}
		return api.ErrFull
	}
	compiles(t, e, codeText(x))
	isCompiled(t, x)
	return api.OK
}

// isCompiled asks P11.6 of a tree.
func isCompiled(t *testing.T, x tree) {
	t.Helper()
	c, err := code.Compile(x.expr())
	if at, right := code.Right(c); err != api.OK || right != api.OK || at != 0 {
		t.Fatalf("Compile(%s): %d; Right: %d, %d", told(x.expr()), err, at, right)
	}
	next, steps := 0, 0
	for _, n := range c.List {
		switch n.Op {
		case code.OpNext:
			next++
		case code.OpStep:
			steps += n.Arg
		}
	}
	if next != x.loops() || steps != x.size() || len(c.List) > 4*x.size() {
		t.Fatalf("Compile(%s): %d instructions, %d next, %d steps", told(x.expr()), len(c.List), next, steps)
	}
}

// P11.2, P11.4: a text of 4096 bytes and of one more; a name of 32 bytes and of one more.
func TestTexts(t *testing.T) {
	for _, b := range []string{"v", "\"", "\n", "\x00", "\xff"} {
		s := strings.Repeat(b, 4096)
		isCode(t, []api.Ins{{Op: code.OpText, Text: s}})
		isNone(t, []api.Ins{{Op: code.OpText, Text: s + b}}, 0, api.ErrCode)
		refuses(t, "self\ntext "+quoted(s+b)+"\n", 1)
		isParsed(t, "text "+quoted(s)+"\n")
		isNone(t, []api.Ins{{Op: code.OpSelf}, {Op: code.OpText, Text: strings.Repeat(b, 1<<20)}}, 1, api.ErrCode)
	}
	for _, op := range []int{code.OpProp, code.OpKids, code.OpRef, code.OpIs, code.OpAll} {
		l := []api.Ins{{Op: code.OpSelf}, {Op: op, Text: strings.Repeat("a", 32)}}
		isCode(t, l)
		l[1].Text += "a"
		isNone(t, l, 1, api.ErrCode)
		refuses(t, "self\n"+rowOf(op).word+" "+l[1].Text+"\n", 1)
		refuses(t, "self\n"+rowOf(op).word+" "+strings.Repeat("a", 1<<19)+"\n", 1)
	}
}

// filled is code that is right, and whose text has that many bytes.
func filled(bytes int) []api.Ins {
	l := []api.Ins{{Op: code.OpSelf}}
	left := bytes - len("self\n")
	const frame = len("text \"\"\neq\n")
	for left > 0 {
		n := left - frame
		// What is behind this one needs its own frame.
		if n > 4096 {
			n = min(4096, n-frame)
		}
		l = append(l, api.Ins{Op: code.OpText, Text: strings.Repeat("v", n)}, api.Ins{Op: code.OpEq})
		left -= frame + n
	}
	return l
}

// P11.3, P11.4: a text of 2^20 bytes and of one more.
func TestLength(t *testing.T) {
	const most = 1 << 20
	for n := most - 3; n <= most; n++ {
		l := filled(n)
		if len(textOf(l)) != n {
			t.Fatalf("%d bytes, not %d", len(textOf(l)), n)
		}
		isCode(t, l)
	}
	for _, n := range []int{most + 1, most + 2, 2 * most} {
		l := filled(n)
		if len(textOf(l)) != n {
			t.Fatalf("%d bytes, not %d", len(textOf(l)), n)
		}
		isCode(t, l)
		if c, at, err := code.Parse(textOf(l)); len(c.List) > 0 || at != 0 || err != api.ErrLong {
			t.Errorf("Parse of %d bytes: %d, %d", n, at, err)
		}
		// What is not right is told ahead of how long it is.
		isNone(t, append(slices.Clone(l), api.Ins{Op: code.OpAdd}), len(l), api.ErrCode)
	}
	// The bytes count ahead of what they are.
	for _, b := range []string{"x", "\n", "self\n", "\x00"} {
		s := strings.Repeat(b, most/len(b)+1)
		if c, at, err := code.Parse(s); len(c.List) > 0 || at != 0 || err != api.ErrLong {
			t.Errorf("%d times %q: %d, %d", most/len(b)+1, b, at, err)
		}
		refuses(t, "self\n"+strings.Repeat("x", most-5), 1)
	}
	// A text that is too long by the forms of its bytes.
	var forms []api.Ins
	for range 64 {
		forms = append(forms, api.Ins{Op: code.OpText, Text: strings.Repeat("\xff", 4096)})
	}
	for range 63 {
		forms = append(forms, api.Ins{Op: code.OpEq})
	}
	isCode(t, forms)
	if _, err := code.Print(api.Code{List: forms}); err != api.ErrLong {
		t.Errorf("%d bytes: %d", len(textOf(forms)), err)
	}
	isCode(t, append(slices.Clone(forms[1:64]), forms[65:]...))
}
