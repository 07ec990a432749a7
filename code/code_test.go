package code_test

import (
	"fmt"
	"slices"
	"strconv"
	"strings"
	"testing"

	"topiary/api"
	"topiary/code"
	"topiary/expr"
)

// read is the expression of a text.
func read(t *testing.T, s string) api.Expr {
	t.Helper()
	e, at, err := expr.Parse(s)
	if err != api.OK {
		t.Fatalf("Parse(%.300q): %d, %d", s, at, err)
	}
	return e
}

// told is what a test tells of an expression.
func told(e api.Expr) string {
	s, err := expr.Print(e)
	if err != api.OK {
		return err.Error()
	}
	return s
}

// shown is what a test tells of instructions, right or not.
func shown(l []api.Ins) string {
	s := fmt.Sprintf("%+v", l)
	return s[:min(len(s), 600)]
}

// lines is the text of lines that stand in one row, `, ` between two.
func lines(s string) string { return strings.ReplaceAll(s, ", ", "\n") + "\n" }

// list is the instructions of lines in one row.
func list(t *testing.T, s string) []api.Ins {
	t.Helper()
	var l []api.Ins
	if s == "" {
		return nil
	}
	for _, line := range strings.Split(s, ", ") {
		n, ok := insOf(line)
		if !ok {
			t.Fatalf("no instruction's line: %q", line)
		}
		l = append(l, n)
	}
	return l
}

// compiles asks for the text of an expression's code.
func compiles(t *testing.T, e api.Expr, want string) {
	t.Helper()
	c, err := code.Compile(e)
	if err != api.OK || textOf(c.List) != want {
		t.Fatalf("Compile(%s): %d\n%snot\n%s", told(e), err, textOf(c.List), want)
	}
	isCode(t, c.List)
}

// isCode asks Right, Print and Parse of code that is right.
func isCode(t *testing.T, l []api.Ins) {
	t.Helper()
	if at, err := code.Right(api.Code{List: l}); at != 0 || err != api.OK {
		t.Fatalf("Right(%.300q): %d, %d", textOf(l), at, err)
	}
	want := textOf(l)
	if len(want) > 1<<20 {
		if s, err := code.Print(api.Code{List: l}); s != "" || err != api.ErrLong {
			t.Fatalf("Print of %d bytes: %d, %d", len(want), len(s), err)
		}
		return
	}
	if s, err := code.Print(api.Code{List: l}); s != want || err != api.OK {
		t.Fatalf("Print: %.300q, %d; not %.300q", s, err, want)
	}
	if c, at, err := code.Parse(want); !slices.Equal(c.List, l) || at != 0 || err != api.OK {
		t.Fatalf("Parse(%.300q): %v, %d, %d", want, c, at, err)
	}
}

// isNone asks Right and Print of code that is not right, and Parse of its text, if each is an instruction.
func isNone(t *testing.T, l []api.Ins, at int, err api.Errno) {
	t.Helper()
	if place, got := code.Right(api.Code{List: l}); place != at || got != err {
		t.Fatalf("Right(%s): %d, %d; not %d, %d", shown(l), place, got, at, err)
	}
	if s, got := code.Print(api.Code{List: l}); s != "" || got != err {
		t.Fatalf("Print of %d instructions: %.300q, %d; not %d", len(l), s, got, err)
	}
	if slices.ContainsFunc(l, func(n api.Ins) bool { return !isTold(n) }) || len(textOf(l)) > 1<<20 {
		return
	}
	if c, place, got := code.Parse(textOf(l)); len(c.List) > 0 || place != at || got != err {
		t.Fatalf("Parse(%.300q): %d, %d; not %d, %d", textOf(l), place, got, at, err)
	}
}

// asAgain asks of some instructions what the slow way tells, and answers it.
func asAgain(t *testing.T, l []api.Ins) fault {
	t.Helper()
	f := faultOf(l)
	if at, err := rightOf(l); err != api.OK {
		isNone(t, l, at, err)
	} else {
		isCode(t, l)
	}
	return f
}

// isRight asks that the instructions of those lines are right.
func isRight(t *testing.T, s string) {
	t.Helper()
	isCode(t, list(t, s))
	if f := asAgain(t, list(t, s)); f.rule != "" {
		t.Fatalf("%s: the slow way tells %v", s, f)
	}
}

// isWrong asks that of those lines the first one that is wrong is that, and by that rule.
func isWrong(t *testing.T, s string, at int, rule string) {
	t.Helper()
	isNone(t, list(t, s), at, api.ErrCode)
	if f := asAgain(t, list(t, s)); f != (fault{at, rule}) {
		t.Fatalf("%s: the slow way tells %v", s, f)
	}
}

// isParsed asks of a text what the slow way tells.
func isParsed(t *testing.T, text string) api.Errno {
	t.Helper()
	l, at, err := parsed(text)
	c, place, got := code.Parse(text)
	if !slices.Equal(c.List, l) || place != at || got != err {
		t.Fatalf("Parse(%.300q): %v, %d, %d; not %v, %d, %d", text, c, place, got, l, at, err)
	}
	if err == api.OK {
		isCode(t, l)
	}
	return err
}

// refuses asks that a text is refused with ErrCode at that number.
func refuses(t *testing.T, text string, at int) {
	t.Helper()
	if c, place, err := code.Parse(text); len(c.List) > 0 || place != at || err != api.ErrCode {
		t.Fatalf("Parse(%.300q): %v, %d, %d; not %d", text, c, place, err, at)
	}
	isParsed(t, text)
}

// P11.1 to P11.4: the chapter's examples.
func TestExamples(t *testing.T) {
	for s, want := range map[string]string{
		"self.a + 1":                       "step 3, self, prop a, step 1, int 1, add",
		"a and not true":                   "step 2, free, and 7, step 2, true, not, truth",
		"if true then 1 else 2 end":        "step 2, true, unless 6, step 1, int 1, jump 8, step 1, int 2",
		`any x in self#b: x.c == "" end`:   `step 3, self, kids b, any, next 12, step 3, load 0, prop c, step 1, text "", eq, take 4`,
		"a or not true":                    "step 2, free, or 7, step 2, true, not, truth",
		`every x in self#b: x.c == "" end`: `step 3, self, kids b, every, next 12, step 3, load 0, prop c, step 1, text "", eq, take 4`,
	} {
		compiles(t, read(t, s), lines(want))
	}
	isNone(t, nil, 0, api.ErrCode)
	isWrong(t, "self, self", 2, "end")
	isWrong(t, "add", 0, "takes")
	isWrong(t, "jump 2, self, self", 1, "unled")
	isWrong(t, "load 0", 0, "load")
	isWrong(t, "true, unless 3, true", 2, "height")
	isRight(t, "true, and 3, true")
	isWrong(t, "self, any", 1, "begin")
	isWrong(t, "next 1", 0, "next")
	isWrong(t, "true, jump 1", 1, "place")
	isNone(t, []api.Ins{{Op: code.OpStep}, {Op: code.OpSelf}}, 0, api.ErrCode)
	c, at, err := code.Parse("step 1\ntext \"a\"\n")
	if !slices.Equal(c.List, []api.Ins{{Op: 1, Arg: 1}, {Op: 3, Text: "a"}}) || at != 0 || err != api.OK {
		t.Errorf("%v, %d, %d", c, at, err)
	}
	for _, s := range []string{"self", "self \n", "load 00\n"} {
		refuses(t, s, 0)
	}
}

// The Ops, and their words: all 40 of the table, by rising numbers.
func TestOps(t *testing.T) {
	ops := []int{
		code.OpStep, code.OpInt, code.OpText, code.OpTrue, code.OpFalse, code.OpSelf, code.OpNone, code.OpLoad, code.OpFree, code.OpProp,
		code.OpKids, code.OpRef, code.OpParent, code.OpIs, code.OpAll, code.OpSize, code.OpFirst, code.OpShow, code.OpConcept, code.OpId,
		code.OpRead, code.OpAdd, code.OpSub, code.OpMul, code.OpEq, code.OpNe, code.OpLt, code.OpLe, code.OpNot, code.OpAnd,
		code.OpOr, code.OpTruth, code.OpUnless, code.OpJump, code.OpAny, code.OpEvery, code.OpOnly, code.OpSum, code.OpNext, code.OpTake,
	}
	words := strings.Fields("step int text true false self none load free prop kids ref parent is all size first show concept id read add sub mul eq ne lt le not and or truth unless jump any every only sum next take")
	for i, op := range ops {
		if op != i+1 || rowOf(op).word != words[i] {
			t.Errorf("%d: %d, %s", i+1, op, rowOf(op).word)
		}
	}
	if len(rows) != 40 {
		t.Errorf("%d rows", len(rows))
	}
}

// P11.1: each Kind's row of the table.
func TestEachKind(t *testing.T) {
	for s, want := range map[string]string{
		"-5": "step 1, int -5", `"a\nb"`: `step 1, text "a\nb"`, "true": "step 1, true", "false": "step 1, false", "self": "step 1, self", "none": "step 1, none", "x": "step 1, free",
		"self.a": "step 2, self, prop a", "self#a": "step 2, self, kids a", "self->a": "step 2, self, ref a", "self^": "step 2, self, parent", "self?A": "step 2, self, is A", "self!!A": "step 2, self, all A",
		"size(x)": "step 2, free, size", "first(x)": "step 2, free, first", "text(x)": "step 2, free, show", "concept(x)": "step 2, free, concept", "id(x)": "step 2, free, id", "int(x)": "step 2, free, read", "not x": "step 2, free, not",
		"1 + 2": "step 2, int 1, step 1, int 2, add", "1 - 2": "step 2, int 1, step 1, int 2, sub", "1 * 2": "step 2, int 1, step 1, int 2, mul", "1 == 2": "step 2, int 1, step 1, int 2, eq", "1 != 2": "step 2, int 1, step 1, int 2, ne", "1 < 2": "step 2, int 1, step 1, int 2, lt", "1 <= 2": "step 2, int 1, step 1, int 2, le",
		"true and false": "step 2, true, and 6, step 1, false, truth", "true or false": "step 2, true, or 6, step 1, false, truth",
		"if true then self else none end": "step 2, true, unless 6, step 1, self, jump 8, step 1, none",
		"any x in self: x end":            "step 2, self, any, next 7, step 1, load 0, take 3", "every x in self: x end": "step 2, self, every, next 7, step 1, load 0, take 3", "only x in self: x end": "step 2, self, only, next 7, step 1, load 0, take 3", "sum x in self: x end": "step 2, self, sum, next 7, step 1, load 0, take 3",
		// Where the steps go, and places behind the first one.
		"self.a.b.c":               "step 4, self, prop a, prop b, prop c",
		"1 + 2 * 3":                "step 2, int 1, step 2, int 2, step 1, int 3, mul, add",
		"1 + 2 + 3":                "step 3, int 1, step 1, int 2, add, step 1, int 3, add",
		"not (1 == 2)":             "step 3, int 1, step 1, int 2, eq, not",
		"not (x and y)":            "step 3, free, and 6, step 1, free, truth, not",
		"x and y and z":            "step 3, free, and 6, step 1, free, truth, and 10, step 1, free, truth",
		"x or (y and not z)":       "step 2, free, or 11, step 2, free, and 10, step 2, free, not, truth, truth",
		"(if x then 1 else 2 end)": "step 2, free, unless 6, step 1, int 1, jump 8, step 1, int 2",
		"text(if x and y then 1 else if z then 2 else 3 end end)":                "step 4, free, and 6, step 1, free, truth, unless 10, step 1, int 1, jump 18, step 2, free, unless 16, step 1, int 2, jump 18, step 1, int 3, show",
		"size(only x in self#a: any y in x#b: y == x end end) < 3":               "step 5, self, kids a, only, next 17, step 3, load 0, kids b, any, next 16, step 2, load 0, step 1, load 1, eq, take 9, take 4, size, step 1, int 3, lt",
		"if any x in self#a: x?A end then 1 else sum x in self#a: id(x) end end": "step 4, self, kids a, any, next 9, step 2, load 0, is A, take 4, unless 13, step 1, int 1, jump 22, step 3, self, kids a, sum, next 22, step 2, load 0, id, take 17",
	} {
		compiles(t, read(t, s), lines(want))
		if got := codeText(treeOf(read(t, s).Nodes, 0)); got != lines(want) {
			t.Fatalf("%s: the slow way tells\n%s", s, got)
		}
	}
	compiles(t, tree{kind: api.EInt, num: -1<<63 + 1}.expr(), lines("step 1, int -9223372036854775807"))
	compiles(t, tree{kind: api.EInt, num: 1<<63 - 1}.expr(), lines("step 1, int 9223372036854775807"))
	compiles(t, tree{kind: api.EText, text: strings.Repeat("\xff", 4096)}.expr(), lines(`step 1, text "`+strings.Repeat(`\xff`, 4096)+`"`))
	compiles(t, tree{kind: api.EText, text: "and 7"}.expr(), lines(`step 1, text "and 7"`))
	// No word of what is free, and of what a loop binds, stands in the code.
	for _, e := range []string{"abc", "any abc in self: abc end"} {
		c, _ := code.Compile(read(t, e))
		for _, n := range c.List {
			if n.Text != "" {
				t.Errorf("%s: %v", e, n)
			}
		}
	}
}

// P11.1: what a loop binds, and by how many loops' bodies further in.
func TestVariables(t *testing.T) {
	for s, want := range map[string]string{
		"x":                    "free",
		"any x in self: x end": "load 0", "any x in self: y end": "free", "any x in x: x end": "free, load 0", "(any x in self: x end) == x": "load 0, free", "x == (any x in self: x end)": "free, load 0",
		"any x in self: any y in x: x == y end end":                                                                                  "load 0, load 1, load 0",
		"any x in self: any x in x: x end == x end":                                                                                  "load 0, load 0, load 0",
		"any x in self: any y in self: any x in x: x == y end end end":                                                               "load 1, load 0, load 1",
		"any x in self: any y in self: any x in self: x == y end and x == y end and x == y end":                                      "load 0, load 1, load 1, load 0, load 0, free",
		"any x in (any x in self: x end): x end":                                                                                     "load 0, load 0",
		"any x in (any x in x: x end): x end":                                                                                        "free, load 0, load 0",
		"any x in (any y in self: x end): y end":                                                                                     "free, free",
		"any x in self: any y in (any z in x: z == x end): y == x and z end end":                                                     "load 0, load 0, load 1, load 0, load 1, free",
		"any x in self: (any y in self: x end) and (any z in self: x end) end":                                                       "load 1, load 1",
		"sum a in self: only b in self: every c in self: any d in self: if a then b else if c then d else e end end end end end end": "load 3, load 2, load 1, load 0, free",
		"any x in self: self.x + self#x + self->x + (self?x) + (self!!x) end":                                                        "",
		`any x in self: "x" end`:                                                                                                     "",
	} {
		e := read(t, s)
		c, err := code.Compile(e)
		var got []string
		for _, n := range c.List {
			if n.Op == code.OpLoad || n.Op == code.OpFree {
				got = append(got, lineOf(n))
			}
		}
		if err != api.OK || strings.Join(got, ", ") != want {
			t.Fatalf("Compile(%s): %d, %v; not %s", s, err, got, want)
		}
		compiles(t, e, codeText(treeOf(e.Nodes, 0)))
	}
}

// P11.1: expressions that aren't right.
func TestNoExpression(t *testing.T) {
	leaf := api.ENode{Kind: api.EInt, Int: 1}
	deep := tree{kind: api.ETrue}
	for range 32 {
		deep = of(api.ENot, deep)
	}
	for _, c := range []struct {
		l   []api.ENode
		err api.Errno
	}{
		{nil, api.ErrExpr}, {[]api.ENode{{}}, api.ErrExpr}, {[]api.ENode{{Kind: 35}}, api.ErrExpr}, {[]api.ENode{{Kind: -1}}, api.ErrExpr}, {[]api.ENode{{Kind: 1 << 40}}, api.ErrExpr},
		{[]api.ENode{leaf, leaf}, api.ErrExpr}, {[]api.ENode{{Kind: api.ENot, Kids: []int{0}}}, api.ErrExpr}, {[]api.ENode{{Kind: api.ENot, Kids: []int{1}}}, api.ErrExpr}, {[]api.ENode{{Kind: api.ENot, Kids: []int{-1}}, leaf}, api.ErrExpr},
		{[]api.ENode{{Kind: api.EAdd, Kids: []int{2, 1}}, leaf, leaf}, api.ErrExpr}, {[]api.ENode{{Kind: api.EIf, Kids: []int{1, 2}}, leaf, leaf}, api.ErrExpr}, {[]api.ENode{{Kind: api.EVar, Text: "self"}}, api.ErrExpr}, {[]api.ENode{{Kind: api.EAny, Text: "", Kids: []int{1, 2}}, leaf, leaf}, api.ErrExpr},
		{[]api.ENode{{Kind: api.EInt, Int: -1 << 63}}, api.ErrExpr}, {[]api.ENode{{Kind: api.EText, Text: strings.Repeat("v", 4097)}}, api.ErrExpr}, {make([]api.ENode, 256), api.ErrExpr}, {make([]api.ENode, 257), api.ErrFull}, {deep.expr().Nodes, api.ErrFull},
	} {
		if got, err := code.Compile(api.Expr{Nodes: c.l}); len(got.List) > 0 || err != c.err || expr.Right(api.Expr{Nodes: c.l}) != c.err {
			t.Errorf("Compile of %d nodes: %v, %d; not %d", len(c.l), got, err, c.err)
		}
	}
	compiles(t, api.Expr{Nodes: []api.ENode{{Kind: api.ENot, Kids: []int{1}}, {Kind: api.ETrue, Kids: []int{}}}}, lines("step 2, true, not"))
}

// takes is how many values an instruction takes, and puts how many more there are at the place behind it; told one by one.
var takes = map[string][2]int{
	"step 1": {0, 0}, "int 5": {0, 1}, `text "a"`: {0, 1}, "true": {0, 1}, "false": {0, 1}, "self": {0, 1}, "none": {0, 1}, "free": {0, 1},
	"prop a": {1, 0}, "kids a": {1, 0}, "ref a": {1, 0}, "parent": {1, 0}, "is A": {1, 0}, "all A": {1, 0},
	"size": {1, 0}, "first": {1, 0}, "show": {1, 0}, "concept": {1, 0}, "id": {1, 0}, "read": {1, 0}, "not": {1, 0}, "truth": {1, 0},
	"add": {2, -1}, "sub": {2, -1}, "mul": {2, -1}, "eq": {2, -1}, "ne": {2, -1}, "lt": {2, -1}, "le": {2, -1},
}

// P11.2: what each instruction takes, and what it leaves, at each height, outside of a loop and within one.
func TestHeights(t *testing.T) {
	for s, k := range takes {
		for height := range 5 {
			// So many values, the instruction, and then as many add as leave one value.
			l := slices.Repeat([]string{"self"}, height)
			l = append(l, s)
			after := height + k[1]
			l = append(l, slices.Repeat([]string{"add"}, max(after-1, 0))...)
			row := strings.Join(l, ", ")
			switch {
			case height < k[0]:
				isWrong(t, row, height, "takes")
			case after == 0:
				isWrong(t, row, 1, "end")
			default:
				isRight(t, row)
				isWrong(t, row+", self", len(l)+1, "end")
				isWrong(t, row+", add", len(l), "takes")
			}
			// The same within a loop, over two values that don't count.
			body := append([]string{"self", "self", "self", "any", "next " + strconv.Itoa(len(l)+6)}, l...)
			row = strings.Join(append(body, "take 4, add, add"), ", ")
			switch {
			case height < k[0]:
				isWrong(t, row, height+5, "takes")
			case after == 0:
				isWrong(t, row, 6, "takes")
			default:
				isRight(t, row)
				isWrong(t, strings.Join(append(body, "self, take 4, add, add"), ", "), len(body), "height")
			}
		}
	}
}

// P11.2: what those take that lead elsewhere too; and how high they lead where.
func TestHeightsOfJumps(t *testing.T) {
	for _, s := range []string{"and 1", "or 1", "unless 1", "any, next 2", "every, next 2", "only, next 2", "sum, next 2", "take 0"} {
		isWrong(t, s, 0, "takes")
	}
	for _, s := range []string{"and 5", "or 5", "unless 5", "any, next 6", "every, next 6", "only, next 6", "sum, next 6", "take 3"} {
		isWrong(t, "self, self, any, next 5, "+s, 4, "takes")
	}
	isWrong(t, "jump 1", 1, "end")
	isRight(t, "jump 1, self")
	isRight(t, "self, jump 2")
	isRight(t, "self, jump 2, jump 3, jump 4")
	// and, or: as it is there, and one less behind.
	for _, s := range []string{"and", "or"} {
		isRight(t, "true, "+s+" 3, true")
		isWrong(t, "true, "+s+" 3, not", 2, "takes")
		isWrong(t, "true, "+s+" 3, step 1", 2, "height")
		isRight(t, "true, true, "+s+" 4, true, add")
		isWrong(t, "true, true, "+s+" 4, not, add", 3, "height")
		isWrong(t, "true, "+s+" 4, true, true", 3, "height")
		isRight(t, "true, "+s+" 4, true, truth")
		isRight(t, "true, "+s+" 4, true, jump 4")
		isWrong(t, "true, "+s+" 2", 1, "height")
		isWrong(t, "true, "+s+" 2, true", 1, "height")
		isRight(t, "true, "+s+" 5, true, "+s+" 5, true")
		isWrong(t, "true, "+s+" 5, true, "+s+" 5, step 1", 4, "height")
	}
	// unless: one less there too.
	isWrong(t, "true, unless 2", 2, "end")
	isRight(t, "true, unless 2, true")
	isRight(t, "true, unless 4, true, jump 5, true")
	isRight(t, "true, unless 4, step 1, step 2, true")
	isWrong(t, "true, unless 4, true, step 1, true", 3, "height")
	isWrong(t, "true, unless 4, true, jump 5, step 1", 4, "height")
	isWrong(t, "true, unless 4, true, jump 5, not", 4, "takes")
	// jump: to its place alone.
	isWrong(t, "self, jump 3, not", 2, "unled")
	isRight(t, "self, unless 3, jump 4, jump 4, self")
	isWrong(t, "self, jump 3, self, not", 2, "unled")
	isWrong(t, "true, unless 4, self, jump 6, self, self, eq", 5, "height")
}

// P11.2: places at which nothing arrives, and such at which things arrive that are unlike; the one behind is told.
func TestPlaces(t *testing.T) {
	for _, s := range []string{"and", "or", "unless", "jump"} {
		at := 1
		for _, arg := range []string{"0", "1"} {
			isWrong(t, "true, "+s+" "+arg+", true", at, "place")
		}
		isWrong(t, "true, "+s+" 4, true", at, "place")
		isWrong(t, "true, "+s+" 9223372036854775807, true", at, "place")
		isNone(t, []api.Ins{{Op: code.OpTrue}, {Op: opNamed(s), Arg: -1}, {Op: code.OpTrue}}, at, api.ErrCode)
	}
	isRight(t, "true, and 3, true")
	isWrong(t, "true, unless 3, true", 2, "height")
	isRight(t, "true, unless 2, true")
	isWrong(t, "true, jump 3, true", 2, "unled")
	// next: its own place, the one behind (to which it leads otherwise), the end, beyond.
	for arg, c := range map[string]struct {
		at   int
		rule string
	}{"0": {2, "place"}, "1": {2, "place"}, "2": {2, "place"}, "3": {2, "height"}, "4": {3, "loops"}, "5": {}, "6": {2, "place"}, "9223372036854775807": {2, "place"}} {
		s := "self, any, next " + arg + ", true, take 2"
		if c.rule == "" {
			isRight(t, s)
		} else {
			isWrong(t, s, c.at, c.rule)
		}
	}
	isNone(t, []api.Ins{{Op: code.OpSelf}, {Op: code.OpAny}, {Op: code.OpNext, Arg: -1}, {Op: code.OpTrue}, {Op: code.OpTake, Arg: 2}}, 2, api.ErrCode)
	// Nothing arrives behind a jump, or behind a take, unless something leads there.
	isWrong(t, "self, jump 3, self, step 1", 2, "unled")
	isWrong(t, "self, any, next 6, true, take 2, self, step 1", 5, "unled")
	isWrong(t, "self, any, next 6, true, take 2, take 2, step 1", 5, "unled")
	isWrong(t, "self, any, next 6, true, take 2, self, add", 5, "unled")
	isRight(t, "self, any, next 5, true, take 2, self, add")
	// What leads to one place: from ahead, and from the place just ahead of it.
	isWrong(t, "true, unless 4, true, unless 4, true, jump 4", 5, "place")
	isRight(t, "true, unless 4, true, unless 4, true")
	isWrong(t, "true, unless 5, true, unless 4, true, true", 4, "height")
	isRight(t, "true, unless 6, true, unless 6, true, jump 7, true")
	isWrong(t, "true, unless 6, true, unless 5, true, true, true", 4, "height")
	isWrong(t, "true, true, and 5, unless 5, jump 5, not", 3, "height")
	// Unlike twice: the first one is told. And ahead of what is wrong otherwise behind it.
	isWrong(t, "true, and 3, step 1, and 5, step 1, add", 2, "height")
	isWrong(t, "true, unless 3, true, add, load 0, self", 2, "height")
}

// P11.2: loops: each rule broken alone.
func TestLoops(t *testing.T) {
	for _, begin := range []string{"any", "every", "only", "sum"} {
		loop := func(s string) string { return strings.ReplaceAll(s, "any", begin) }
		isRight(t, loop("self, any, next 5, true, take 2"))
		isRight(t, loop("self, any, next 5, load 0, take 2, not"))
		// Behind it stands a next, or nothing does, or something else.
		isWrong(t, loop("self, any"), 1, "begin")
		isWrong(t, loop("self, any, true, take 2"), 1, "begin")
		isWrong(t, loop("self, any, jump 3, next 6, true, take 3"), 1, "begin")
		isWrong(t, loop("self, any, step 1, next 6, true, take 3"), 1, "begin")
		isWrong(t, loop("self, any, take 2"), 1, "begin")
		// One that is not as told is a next; it is its own place that is told.
		isNone(t, []api.Ins{{Op: code.OpSelf}, {Op: opNamed(begin)}, {Op: code.OpNext, Arg: 5, Int: 1}, {Op: code.OpTrue}, {Op: code.OpTake, Arg: 2}}, 2, api.ErrCode)
		// take: of no loop, of another one, of another place; with the height of its base, and with one more.
		isWrong(t, "true, take 0", 1, "take")
		isWrong(t, "true, take 1", 1, "take")
		isWrong(t, loop("self, any, next 5, true, take 0"), 4, "take")
		isWrong(t, loop("self, any, next 5, true, take 1"), 4, "take")
		isWrong(t, loop("self, any, next 5, true, take 3"), 4, "take")
		isWrong(t, loop("self, any, next 5, true, take 4"), 4, "take")
		isWrong(t, loop("self, any, next 5, true, take 5"), 4, "take")
		isWrong(t, loop("self, any, next 4, take 2"), 3, "takes")
		isWrong(t, loop("self, any, next 6, true, true, take 2"), 5, "take")
		isWrong(t, loop("self, self, any, next 6, true, take 2, eq"), 5, "take")
		isRight(t, loop("self, self, any, next 6, true, take 3, eq"))
		// next: of no loop, of one that began elsewhere, with another height.
		isWrong(t, "next 1", 0, "next")
		isWrong(t, "self, next 3, self", 1, "next")
		isWrong(t, loop("self, any, next 6, next 6, true, take 2"), 3, "next")
		isWrong(t, loop("self, any, next 6, true, next 6, take 2"), 4, "next")
		isWrong(t, loop("self, any, next 6, true, take 2, next 6"), 5, "unled")
		isWrong(t, loop("self, any, next 5, true, take 2, next 6"), 5, "next")
		// The end within a loop: as next leads out of it, what else leads there is told.
		isWrong(t, loop("self, any, next 4, true"), 3, "loops")
		isWrong(t, loop("self, any, next 3"), 2, "height")
		isWrong(t, loop("self, any, next 5, true, jump 5"), 4, "loops")
		isWrong(t, loop("self, any, next 4, jump 4"), 3, "height")
		isWrong(t, loop("self, any, next 5, true, truth"), 4, "loops")
		// Code that leaves a loop: ahead of its end, and behind it.
		isWrong(t, loop("self, any, next 7, true, unless 8, true, take 2, not, not"), 7, "height")
		isWrong(t, loop("self, any, next 8, true, true, and 8, truth, take 2, not"), 5, "height")
		isWrong(t, loop("self, any, next 7, true, and 7, true, take 2, not"), 4, "loops")
		isRight(t, loop("self, any, next 8, true, and 7, true, jump 7, take 2, not"))
		// Code that comes into a loop, over its begin.
		isWrong(t, loop("true, unless 5, self, any, next 7, true, take 4"), 4, "loops")
		isWrong(t, loop("true, unless 4, self, any, next 7, true, take 4"), 3, "loops")
		isWrong(t, loop("true, true, unless 4, any, next 7, true, take 4"), 3, "height")
		isRight(t, loop("self, true, unless 3, any, next 7, true, take 4"))
		isWrong(t, loop("self, true, unless 4, any, next 7, true, take 4"), 3, "height")
	}
}

// P11.2: loops within loops, and one behind the other.
func TestLoopsWithin(t *testing.T) {
	const two = "self, only, next 10, load 0, any, next 9, load 1, take 5, not, take 2"
	isWrong(t, two, 8, "unled")
	const both = "self, only, next 10, load 0, any, next 9, load 1, not, take 5, take 2"
	isRight(t, both)
	for _, c := range []struct {
		from, to string
		at       int
		rule     string
	}{
		{"load 0", "load 1", 3, "load"}, {"load 1", "load 2", 6, "load"}, {"load 1", "load 9223372036854775807", 6, "load"},
		{"take 5", "take 2", 8, "take"}, {"take 2", "take 5", 9, "take"}, {"take 5", "jump 9", 8, "loops"}, {"take 5", "jump 10", 8, "loops"}, {"next 9", "next 10", 5, "loops"},
		{"next 9", "next 8", 7, "loops"}, {"next 10", "next 9", 5, "loops"}, {"next 10", "next 3", 2, "height"}, {"next 9", "next 5", 5, "place"}, {"next 9", "next 2", 5, "place"}, {"next 9", "next 6", 5, "height"},
		{"not", "next 9", 7, "next"}, {"not", "step 7", 0, ""}, {"any", "sum", 0, ""}, {"take 2", "truth", 9, "loops"}, {"take 2", "jump 10", 9, "loops"}, {"load 0, any", "load 0, not", 5, "next"}, {"only", "not", 2, "next"},
	} {
		s := strings.Replace(both, c.from, c.to, 1)
		if c.rule == "" {
			isRight(t, s)
		} else {
			isWrong(t, s, c.at, c.rule)
		}
	}
	// A loop over what another one came to; two whose values are taken together; one with its base above the other's.
	isRight(t, "self, only, next 5, true, take 2, any, next 9, load 0, take 6")
	isWrong(t, "self, only, next 5, load 0, take 2, any, next 9, load 1, take 6", 7, "load")
	isRight(t, "self, sum, next 5, load 0, take 2, self, sum, next 10, load 0, take 7, add")
	isWrong(t, "self, sum, next 5, load 0, take 2, self, sum, next 10, load 1, take 7, add", 8, "load")
	isWrong(t, "self, sum, next 5, load 0, take 2, self, sum, next 10, load 0, take 2, add", 9, "take")
	isWrong(t, "self, sum, next 10, self, load 0, any, next 9, load 1, take 6, add, take 2", 9, "loops")
	isRight(t, "self, sum, next 11, self, load 0, any, next 9, load 1, take 6, add, take 2")
	isRight(t, "self, sum, next 13, self, load 0, any, next 9, load 1, take 6, eq, not, not, take 2")
	isWrong(t, "self, sum, next 13, self, load 0, any, next 11, load 1, add, take 6, eq, take 2, add", 8, "takes")
	isWrong(t, "self, load 0", 1, "load")
	isWrong(t, "self, sum, next 5, load 0, take 2, load 0", 5, "load")
}

// P11.2: what an instruction has; and that the other fields are zero.
func TestTold(t *testing.T) {
	for _, r := range rows {
		l, at := standing(r)
		isCode(t, l)
		wrong := func(change func(n *api.Ins)) {
			t.Helper()
			other := slices.Clone(l)
			change(&other[at])
			want := fault{at, "told"}
			// Where no next stands any more, it is the loop's begin that is told.
			if r.word == "next" && other[at].Op != r.op {
				want = fault{at - 1, "begin"}
			}
			isNone(t, other, want.at, api.ErrCode)
			if f := faultOf(other); f != want {
				t.Fatalf("%v: the slow way tells %v", other, f)
			}
		}
		if r.has != "count" && r.has != "number" && r.has != "place" {
			for _, n := range []int{1, -1, 1 << 62, -1 << 63} {
				wrong(func(ins *api.Ins) { ins.Arg = n })
			}
		}
		if r.has != "int" {
			for _, n := range []int64{1, -1, 1 << 62, -1 << 63} {
				wrong(func(ins *api.Ins) { ins.Int = n })
			}
		}
		if r.has != "text" && r.has != "name" {
			for _, s := range []string{"a", "\x00", strings.Repeat("v", 5000)} {
				wrong(func(n *api.Ins) { n.Text = s })
			}
		}
		for _, op := range []int{0, -1, 41, 42, 256 + r.op, -r.op, 1<<32 + r.op, -1 << 63} {
			wrong(func(n *api.Ins) { n.Op = op })
		}
		if r.has == "count" {
			for _, n := range []int{0, -1, -1 << 63} {
				wrong(func(ins *api.Ins) { ins.Arg = n })
			}
		}
		if r.has == "number" || r.has == "place" {
			for _, n := range []int{-1, -2, -1 << 63} {
				wrong(func(ins *api.Ins) { ins.Arg = n })
			}
		}
		if r.has == "name" {
			for _, s := range []string{"", "?a", "9", "_a", "a b", "a ", " a", "a\n", "a.b", "é", "a\x00", strings.Repeat("a", 33), "?Kept"} {
				wrong(func(n *api.Ins) { n.Text = s })
			}
			for _, s := range []string{"a", "Z9_", "self", "end", "not", "step", strings.Repeat("a", 32)} {
				l[at].Text = s
				isCode(t, l)
			}
		}
	}
}

// standing is code in which an instruction of a row stands right, and at which place.
func standing(r row) ([]api.Ins, int) {
	self, add := api.Ins{Op: code.OpSelf}, api.Ins{Op: code.OpAdd}
	n := api.Ins{Op: r.op}
	switch r.has {
	case "count":
		n.Arg = 1
	case "name":
		n.Text = "a"
	}
	switch r.word {
	case "any", "every", "only", "sum":
		return []api.Ins{self, n, {Op: code.OpNext, Arg: 5}, self, {Op: code.OpTake, Arg: 2}}, 1
	case "next", "take", "load":
		l := []api.Ins{self, {Op: code.OpAny}, {Op: code.OpNext, Arg: 5}, {Op: code.OpLoad}, {Op: code.OpTake, Arg: 2}}
		return l, slices.IndexFunc(l, func(n api.Ins) bool { return n.Op == r.op })
	case "and", "or", "unless":
		n.Arg = 3
		if r.word == "unless" {
			n.Arg = 2
		}
		return []api.Ins{self, n, self}, 1
	case "jump":
		n.Arg = 2
		return []api.Ins{self, n}, 1
	}
	// Of all others it is right with one value more than it can take; what is left over is added up.
	l := []api.Ins{self, self, self, n}
	for faultOf(l).rule != "" {
		l = append(l, add)
	}
	return l, 3
}

// P11.2: the smallest and the greatest numbers, and texts of any bytes.
func TestGreatest(t *testing.T) {
	for _, n := range []int64{0, 1, -1, 1<<63 - 1, -1 << 63, -1<<63 + 1} {
		isCode(t, []api.Ins{{Op: code.OpInt, Int: n}})
	}
	isCode(t, []api.Ins{{Op: code.OpStep, Arg: 1<<63 - 1}, {Op: code.OpStep, Arg: 1}, {Op: code.OpSelf}})
	all := make([]byte, 256)
	for i := range all {
		all[i] = byte(i)
		isCode(t, []api.Ins{{Op: code.OpText, Text: string(all[i : i+1])}})
	}
	isCode(t, []api.Ins{{Op: code.OpText, Text: string(all)}})
	isCode(t, []api.Ins{{Op: code.OpText}})
	isRight(t, "int -9223372036854775808")
	isRight(t, "step 9223372036854775807, self")
}

// P11.2: the rules of one place, where several are broken: it is the place that is told, and what is behind it is not asked.
func TestFirst(t *testing.T) {
	isNone(t, []api.Ins{{Op: code.OpAdd, Arg: 1}, {Op: 99}}, 0, api.ErrCode)
	isNone(t, []api.Ins{{Op: code.OpSelf}, {Op: 99}, {Op: code.OpAdd}}, 1, api.ErrCode)
	isNone(t, []api.Ins{{Op: code.OpJump, Arg: 2}, {Op: 99}, {Op: code.OpSelf}}, 1, api.ErrCode)
	isNone(t, []api.Ins{{Op: code.OpAdd}, {Op: 99}}, 0, api.ErrCode)
	isNone(t, []api.Ins{{Op: code.OpSelf}, {Op: code.OpSelf}, {Op: 99}}, 2, api.ErrCode)
	isNone(t, make([]api.Ins, 3), 0, api.ErrCode)
	isWrong(t, "self, any, next 9, load 7", 2, "place")
	isWrong(t, "self, self, and 4, take 0, load 0", 3, "take")
}

// P11.4: each instruction's line, and lines that are none's; a line's number ahead of what Right tells.
func TestLines(t *testing.T) {
	for _, r := range rows {
		has := map[string][]string{
			"": {""}, "count": {" 1", " 2", " 10", " 9223372036854775807"}, "number": {" 0", " 1", " 10", " 9223372036854775807"}, "place": {" 0", " 1", " 10", " 9223372036854775807"},
			"int":  {" 0", " 1", " -1", " 10", " 9223372036854775807", " -9223372036854775808"},
			"text": {` ""`, ` "a"`, ` " "`, ` "\""`, ` "\\"`, ` "\n"`, ` "\x00\xff"`, ` "a b\nself"`, ` "` + strings.Repeat(`\x00`, 4096) + `"`},
			"name": {" a", " self", " A_9", " " + strings.Repeat("a", 32)},
		}
		// Behind a line that is an instruction's the next one is asked: the line `x` is none's.
		for _, s := range has[r.has] {
			refuses(t, r.word+s+"\nx\n", 1)
			refuses(t, r.word+s+"\nself", 1)
			refuses(t, r.word+s, 0)
			refuses(t, "self\n"+r.word+s+" \n", 1)
			refuses(t, "self\n "+r.word+s+"\n", 1)
			refuses(t, "self\n"+r.word+s+"\r\n", 1)
			refuses(t, "self\n"+strings.ToUpper(r.word)+s+"\n", 1)
			refuses(t, "self\n"+r.word+s+"\n\n", 2)
			refuses(t, "self\n"+r.word+strings.Replace(s, " ", "  ", 1)+" \n", 1)
			if r.has != "" && s != "" {
				refuses(t, "self\n"+r.word+strings.Replace(s, " ", "  ", 1)+"\n", 1)
				refuses(t, "self\n"+r.word+strings.Replace(s, " ", "\t", 1)+"\n", 1)
				refuses(t, "self\n"+r.word+s[1:]+"\n", 1)
				refuses(t, "self\n"+r.word+s+s+"\n", 1)
			}
		}
		for kind, all := range has {
			numbers := []string{"number", "place", "count", "int"}
			if kind == r.has || slices.Contains(numbers, r.has) && slices.Contains(numbers, kind) {
				continue
			}
			for _, s := range all {
				refuses(t, "self\n"+r.word+s+"\n", 1)
			}
		}
	}
}

// P11.4: numbers, texts and names that are spelt otherwise, one by one.
func TestSpelt(t *testing.T) {
	for _, s := range []string{
		"step 0", "step -1", "step 01", "step +1", "step 1.0", "step 9223372036854775808", "step 18446744073709551617", "step ", "step", "step a", "step \"1\"", "step 1 1", "step 0x1", "step 1_0",
		"int", "int ", "int -0", "int 00", "int 007", "int +1", "int 9223372036854775808", "int -9223372036854775809", "int - 1", "int --1", "int 1e3", "int true", "int \"1\"", "int ١",
		"text", "text ", "text a", `text "`, `text "a`, `text a"`, `text ""a`, `text "a""`, `text "a" "b"`, `text "\q"`, `text "\x4"`, `text "\x41"`, `text "\x0a"`, `text "\xFF"`, `text "\"`, "text \"\t\"", "text \"\x00\"", "text \"é\"", `text 'a'`, "text \"a\nb\"", `text "` + strings.Repeat("a", 4097) + `"`, `text "` + strings.Repeat(`\x00`, 4097) + `"`,
		"load", "load ", "load 00", "load -1", "load -0", "load a", "load 9223372036854775808",
		"prop", "prop ", "prop ?a", "prop 9", "prop _a", "prop a b", "prop a.b", "prop \"a\"", "prop é", "prop " + strings.Repeat("a", 33), "is ?Kept", "kids", "ref 1", "all *",
		"and", "and ", "and -1", "and 01", "and a", "or", "unless", "jump", "jump 1 2", "next", "next -5", "take", "take 00",
		"", " ", "x", "Self", "selF", "sel", "selfs", "self self", "self 1", "self \"\"", "free x", "opself", "OpSelf", "6", "#", "true.", "truth 1", "add 1", "any x", "sum 0", "parent a",
		"if", "else", "concepts", "ids", "steps 1", "texts \"\"", "ne=", "==", "\x00", "self\x00", "é",
	} {
		refuses(t, s+"\n", 0)
		refuses(t, "self\n"+s+"\n", 1)
		refuses(t, "self\nadd\n"+s+"\nself\n", 2)
		if s != "" {
			refuses(t, "self\n"+s, 1)
		}
	}
	// A line's number is told ahead of Right's place, whatever that is.
	refuses(t, "add\nself\nx\n", 2)
	refuses(t, "add\nself\n", 0)
	refuses(t, "self\nself\nself", 2)
	refuses(t, "self\nself\n", 2)
	refuses(t, "", 0)
	refuses(t, "\n", 0)
	refuses(t, "self\n\n", 1)
	refuses(t, "\nself\n", 0)
	isParsed(t, "self\n")
	isParsed(t, "self\njump 2\n")
	refuses(t, "self\njump 1\n", 1)
	refuses(t, "self\njump 9223372036854775807\n", 1)
}
