package expr_test

import (
	"math"
	"strings"
	"testing"

	"topiary/api"
	"topiary/expr"
)

func num(n int64) tree                   { return tree{kind: api.EInt, num: n} }
func str(s string) tree                  { return tree{kind: api.EText, text: s} }
func variable(s string) tree             { return tree{kind: api.EVar, text: s} }
func of(kind int, kids ...tree) tree     { return tree{kind: kind, kids: kids} }
func in(kind int, s string, k tree) tree { return tree{kind: kind, text: s, kids: []tree{k}} }
func loop(kind int, s string, list, each tree) tree {
	return tree{kind: kind, text: s, kids: []tree{list, each}}
}

var (
	a, b, c = variable("a"), variable("b"), variable("c")
	self    = of(api.ESelf)
)

// reads asks that the text is read as that expression.
func reads(t *testing.T, s string, want tree) {
	t.Helper()
	if e, at, err := expr.Parse(s); err != api.OK || at != 0 || !same(e, want.expr()) {
		t.Fatalf("Parse(%.300q): %+v, %d, %d; not %+v", s, e, at, err, want.expr())
	}
}

// refuses asks that Parse tells that error of the text, at that place, and nothing beside.
func refuses(t *testing.T, s string, at int, err api.Errno) {
	t.Helper()
	if e, place, told := expr.Parse(s); told != err || place != at || len(e.Nodes) != 0 {
		t.Fatalf("Parse(%.300q): %+v, %d, %d; not %d, %d", s, e, place, told, at, err)
	}
}

// wrongAt asks for ErrExpr at that place.
func wrongAt(t *testing.T, s string, at int) {
	t.Helper()
	refuses(t, s, at, api.ErrExpr)
}

// tells asks that the expression is right, and told as that text.
func tells(t *testing.T, x tree, want string) {
	t.Helper()
	if err := expr.Right(x.expr()); err != api.OK {
		t.Fatalf("Right(%+v): %d", x.expr(), err)
	}
	if s, err := expr.Print(x.expr()); err != api.OK || s != want {
		t.Fatalf("Print(%+v): %.300q, %d; not %.300q", x.expr(), s, err, want)
	}
}

// isOwn asks that the text is the expression's own, and is read as it.
func isOwn(t *testing.T, s string, x tree) {
	t.Helper()
	reads(t, s, x)
	tells(t, x, s)
}

// isWrong asks that all calls on an expression tell that error, and nothing beside.
func isWrong(t *testing.T, l []api.ENode, want api.Errno) {
	t.Helper()
	e := api.Expr{Nodes: l}
	if err := expr.Right(e); err != want {
		t.Fatalf("Right(%+v): %d, not %d", l, err, want)
	}
	if s, err := expr.Print(e); err != want || s != "" {
		t.Fatalf("Print(%+v): %q, %d; not %d", l, s, err, want)
	}
	for _, at := range []int{math.MinInt, -1, 0, 1, len(l) - 1, len(l), math.MaxInt} {
		if p, err := expr.Part(e, at); err != want || len(p.Nodes) != 0 {
			t.Fatalf("Part(%+v, %d): %+v, %d; not %d", l, at, p, err, want)
		}
	}
}

// P8.1, P8.3: the chapter's examples.
func TestExamples(t *testing.T) {
	isOwn(t, "self.a + 1", of(api.EAdd, in(api.EProp, "a", self), num(1)))
	isOwn(t, "a - -5 - b", of(api.ESub, of(api.ESub, a, num(-5)), b))
	isOwn(t, "not a == b and c", of(api.EAnd, of(api.ENot, of(api.EEq, a, b)), c))
	isOwn(t, "self!!Num->to^?Sum", in(api.EIs, "Sum", of(api.EParent, in(api.ERef, "to", in(api.EAll, "Num", self)))))
	isOwn(t, "any x in self#item: x.v < 3 end", loop(api.EAny, "x", in(api.EKids, "item", self), of(api.ELt, in(api.EProp, "v", variable("x")), num(3))))
	wrongAt(t, "if a then b else c", 18)
	wrongAt(t, "a == b == c", 7)
	wrongAt(t, "a.", 2)
	wrongAt(t, "size a", 5)
	wrongAt(t, "", 0)
	isOwn(t, "(a or b) and c", of(api.EAnd, of(api.EOr, a, b), c))
	reads(t, "((a))", a)
	tells(t, a, "a")
	isOwn(t, "-5.v", in(api.EProp, "v", num(-5)))
}

// P8.1: the numbers of the nodes, field by field.
func TestList(t *testing.T) {
	e, _, _ := expr.Parse(`if self.a then -7 else any x in "l": x end end`)
	want := []api.ENode{
		{Kind: 30, Kids: []int{1, 3, 4}}, {Kind: 8, Text: "a", Kids: []int{2}}, {Kind: 5}, {Kind: 1, Int: -7},
		{Kind: 31, Text: "x", Kids: []int{5, 6}}, {Kind: 2, Text: "l"}, {Kind: 7, Text: "x"},
	}
	if !same(e, api.Expr{Nodes: want}) {
		t.Errorf("%+v", e)
	}
	e, _, _ = expr.Parse("a * b - c * 2 - d")
	want = []api.ENode{
		{Kind: 21, Kids: []int{1, 8}}, {Kind: 21, Kids: []int{2, 5}}, {Kind: 22, Kids: []int{3, 4}}, {Kind: 7, Text: "a"}, {Kind: 7, Text: "b"},
		{Kind: 22, Kids: []int{6, 7}}, {Kind: 7, Text: "c"}, {Kind: 1, Int: 2}, {Kind: 7, Text: "d"},
	}
	if !same(e, api.Expr{Nodes: want}) {
		t.Errorf("%+v", e)
	}
}

// P8.1, P8.3: each Kind by itself, with its own text.
func TestKinds(t *testing.T) {
	for s, x := range map[string]tree{
		"7": num(7), "-7": num(-7), "0": num(0), `"a\n\"\x00"`: str("a\n\"\x00"), `""`: str(""), `"not"`: str("not"),
		"true": of(3), "false": of(4), "self": of(5), "none": of(6), "a": a,
		"a.b": in(8, "b", a), "a#b": in(9, "b", a), "a->b": in(10, "b", a), "a^": of(11, a), "a?b": in(12, "b", a), "a!!b": in(13, "b", a),
		"size(a)": of(14, a), "first(a)": of(15, a), "text(a)": of(16, a), "concept(a)": of(17, a), "id(a)": of(18, a), "int(a)": of(19, a),
		"a + b": of(20, a, b), "a - b": of(21, a, b), "a * b": of(22, a, b), "a == b": of(23, a, b), "a != b": of(24, a, b), "a < b": of(25, a, b), "a <= b": of(26, a, b), "a and b": of(27, a, b), "a or b": of(28, a, b),
		"not a": of(29, a), "if a then b else c end": of(30, a, b, c),
		"any x in a: b end": loop(31, "x", a, b), "every x in a: b end": loop(32, "x", a, b), "only x in a: b end": loop(33, "x", a, b), "sum x in a: b end": loop(34, "x", a, b),
	} {
		isOwn(t, s, x)
	}
}

// P8.1: what stands in a row belongs together from the left.
func TestRows(t *testing.T) {
	for s, kind := range map[string]int{"or": 28, "and": 27, "+": 20, "-": 21, "*": 22} {
		isOwn(t, "a "+s+" b "+s+" c", of(kind, of(kind, a, b), c))
		isOwn(t, "a "+s+" (b "+s+" c)", of(kind, a, of(kind, b, c)))
		isOwn(t, "a "+s+" b "+s+" c "+s+" a", of(kind, of(kind, of(kind, a, b), c), a))
		reads(t, "(a "+s+" b) "+s+" c", of(kind, of(kind, a, b), c))
		// Behind a first `-` a second one may begin an int.
		begins := 0
		if s == "-" {
			begins = 2
		}
		wrongAt(t, s+" a", begins)
		wrongAt(t, "a "+s+" "+s+" b", len("a "+s+" ")+begins)
	}
	isOwn(t, "a + b - c + a", of(20, of(21, of(20, a, b), c), a))
	isOwn(t, "a - (b + c) - a", of(21, of(21, a, of(20, b, c)), a))
	isOwn(t, "a.b#c->a^?b!!c", in(13, "c", in(12, "b", of(11, in(10, "a", in(9, "c", in(8, "b", a)))))))
	isOwn(t, "not not a", of(29, of(29, a)))
}

// P8.1, P8.3: which is the tighter one.
func TestTight(t *testing.T) {
	isOwn(t, "a or b and c", of(28, a, of(27, b, c)))
	isOwn(t, "a and b or c", of(28, of(27, a, b), c))
	isOwn(t, "a and (b or c)", of(27, a, of(28, b, c)))
	isOwn(t, "not a or b", of(28, of(29, a), b))
	isOwn(t, "a and not b", of(27, a, of(29, b)))
	isOwn(t, "not (a and b)", of(29, of(27, a, b)))
	isOwn(t, "not a < b", of(29, of(25, a, b)))
	isOwn(t, "(not a) < b", of(25, of(29, a), b))
	isOwn(t, "a < (not b)", of(25, a, of(29, b)))
	isOwn(t, "a + (not b)", of(20, a, of(29, b)))
	isOwn(t, "not a + b", of(29, of(20, a, b)))
	isOwn(t, "a + b == b * c", of(23, of(20, a, b), of(22, b, c)))
	isOwn(t, "a + (b == b) * c", of(20, a, of(22, of(23, b, b), c)))
	isOwn(t, "(a + b) * c", of(22, of(20, a, b), c))
	isOwn(t, "a * (b - c)", of(22, a, of(21, b, c)))
	isOwn(t, "a * b.v", of(22, a, in(8, "v", b)))
	isOwn(t, "(a * b).v", in(8, "v", of(22, a, b)))
	isOwn(t, "(not a)^", of(11, of(29, a)))
	isOwn(t, "-5 * -5^", of(22, num(-5), of(11, num(-5))))
	isOwn(t, "not -5", of(29, num(-5)))
	isOwn(t, "size(a or b)", of(14, of(28, a, b)))
	isOwn(t, "size(a).v", in(8, "v", of(14, a)))
	isOwn(t, "if a or b then b and c else not c end.v + 1", of(20, in(8, "v", of(30, of(28, a, b), of(27, b, c), of(29, c))), num(1)))
	isOwn(t, "any x in a or b: b or c end#v", in(9, "v", loop(31, "x", of(28, a, b), of(28, b, c))))
}

// P8.1: comparisons do not stand in a row.
func TestComparisons(t *testing.T) {
	signs := map[string]int{"==": 23, "!=": 24, "<": 25, "<=": 26}
	for s, kind := range signs {
		for s2, kind2 := range signs {
			ahead := "a " + s + " b "
			wrongAt(t, ahead+s2+" c", len(ahead))
			wrongAt(t, "("+ahead+s2+" c)", len(ahead)+1)
			wrongAt(t, "not "+ahead+s2+" c", len(ahead)+4)
			isOwn(t, "(a "+s+" b) "+s2+" c", of(kind2, of(kind, a, b), c))
			isOwn(t, "a "+s+" (b "+s2+" c)", of(kind, a, of(kind2, b, c)))
			isOwn(t, "a "+s+" b and b "+s2+" c", of(27, of(kind, a, b), of(kind2, b, c)))
		}
		wrongAt(t, "a "+s+" not b", len("a "+s+" "))
	}
}

// P8.1, P8.3: `-` and an int as one number, and as two tokens of something else.
func TestInts(t *testing.T) {
	for s, n := range map[string]int64{
		"0": 0, "1": 1, "-1": -1, "9223372036854775807": math.MaxInt64, "-9223372036854775807": math.MinInt64 + 1, "-9223372036854775806": math.MinInt64 + 2, "12": 12,
	} {
		isOwn(t, s, num(n))
		isOwn(t, "a - "+s, of(21, a, num(n)))
		isOwn(t, s+" - a", of(21, num(n), a))
		isOwn(t, "size("+s+")", of(14, num(n)))
		isOwn(t, s+".v", in(8, "v", num(n)))
	}
	reads(t, "-0", num(0))
	reads(t, "- \n 5", num(-5))
	reads(t, "a-5", of(21, a, num(5)))
	reads(t, "a--5", of(21, a, num(-5)))
	reads(t, "a - - 5", of(21, a, num(-5)))
	reads(t, "5-5", of(21, num(5), num(5)))
	reads(t, "-5-5", of(21, num(-5), num(5)))
	reads(t, "(-5)", num(-5))
	isOwn(t, "a + -5", of(20, a, num(-5)))
	isOwn(t, "a - 5", of(21, a, num(5)))
	isOwn(t, "-5 - -5 - 5", of(21, of(21, num(-5), num(-5)), num(5)))
	isOwn(t, "if -1 then -2 else -3 end", of(30, num(-1), num(-2), num(-3)))
	isOwn(t, "any x in -1: -2 end", loop(31, "x", num(-1), num(-2)))
	refuses(t, "-9223372036854775808", 19, api.ErrLex)
	refuses(t, "a - 9223372036854775808", 22, api.ErrLex)
}

// P8.1: a `-` ahead of something else than an int.
func TestMinus(t *testing.T) {
	for _, s := range []string{"a", "(5)", "-5", `"5"`, "true", "self", "size(a)", "not a", "+ 5", ".v", "if a then b else c end"} {
		wrongAt(t, "-"+s, 1)
		wrongAt(t, "- "+s, 2)
		wrongAt(t, "a * -"+s, 5)
		wrongAt(t, "a - - "+s, 6)
		wrongAt(t, "(-"+s+")", 2)
	}
	wrongAt(t, "-", 1)
	wrongAt(t, "a - -", 5)
	wrongAt(t, "a -", 3)
	wrongAt(t, "--5", 1)
	wrongAt(t, "a - - -5", 6)
}

// P8.1: the place of the first wrong token.
func TestPlaces(t *testing.T) {
	for _, c := range []struct {
		s  string
		at int
	}{
		{"a b", 2}, {"a 5", 2}, {`a "b"`, 2}, {"a self", 2}, {"a not b", 2}, {"a)", 1}, {"a  )", 3}, {")", 0}, {"()", 1}, {"size()", 5}, {"size(a b)", 7}, {"size(a", 6}, {"size", 4},
		{"a.5", 2}, {"a.and", 2}, {"a.self", 2}, {`a."b"`, 2}, {"a..b", 2}, {"a.(b)", 2}, {"a^b", 2}, {"a^5", 2}, {"a?", 2}, {"a? ?", 3}, {"a!!", 3}, {"a#", 2}, {"a->", 3}, {"a-> ", 4}, {".a", 0}, {"^", 0}, {"a!!!!b", 3},
		{"or", 0}, {"a or", 4}, {"a or or b", 5}, {"and a", 0}, {"not", 3}, {"not or", 4}, {"a and \n", 7}, {"\n ", 2}, {" * a", 1}, {"a * * b", 4}, {"a == ", 5}, {"== a", 0},
		{"if", 2}, {"if then", 3}, {"if a", 4}, {"if a else", 5}, {"if a end", 5}, {"if a then", 9}, {"if a then b", 11}, {"if a then b end", 12}, {"if a then b then", 12}, {"if a then b else c else", 19}, {"if a then b else c end end", 23}, {"then", 0}, {"end", 0},
		{"any", 3}, {"any 5", 4}, {"any in", 4}, {"any self in a", 4}, {"any x", 5}, {"any x of", 6}, {"any x: a", 5}, {"any x in", 8}, {"any x in a", 10}, {"any x in a b", 11}, {"any x in a:", 11}, {"any x in a: b", 13}, {"any x in a: b : c end", 14}, {"any x in a: end", 12}, {"any x in : b end", 9}, {"any (x) in a: b end", 4}, {"any x in a: b end c", 18},
		{"sum x in a", 10}, {"sum(a)", 3}, {"every x a", 8}, {"only only in a: b end", 5},
		{"size(a", 6}, {"size size(a)", 5}, {"first a", 6}, {"text 5", 5}, {"concept.a", 7}, {"id", 2}, {"int int", 4}, {"int 5", 4}, {"(a", 2}, {"((a)", 4}, {"(a))", 3}, {"(a, b)", 2},
		{"true false", 5}, {"none.a none", 7}, {"in", 0}, {":", 0}, {"a : b", 2}, {"else", 0},
	} {
		if strings.Contains(c.s, ",") {
			refuses(t, c.s, c.at, api.ErrLex)
		} else {
			wrongAt(t, c.s, c.at)
			wrongAt(t, "\n "+c.s, c.at+2)
		}
	}
}

// P8.1: an error of layer 7, and its place, ahead of all that is wrong with the tokens.
func TestTokens(t *testing.T) {
	for s, at := range map[string]int{
		"a = b": 3, ") )) a = b": 8, "!": 1, "a b c ,": 6, "007": 1, "a.5a": 3, `"\q"`: 2, `a . "`: 5, "- >": 2, "a == b == c <==": 15, strings.Repeat("a", 33): 32, "self._a": 5, "\t": 0, "9223372036854775808": 18,
	} {
		refuses(t, s, at, api.ErrLex)
	}
	reads(t, " a\n", a)
	reads(t, "\n( \n a\n .\nb )\n\n", in(8, "b", a))
	reads(t, `a=="b"`, of(23, a, str("b")))
	reads(t, `if(a)then"b"else(c)end`, of(30, a, str("b"), c))
	reads(t, "not(a)", of(29, a))
	reads(t, "size ( a )", of(14, a))
}

// P8.3: no blank around a `^`, whatever stands behind it.
func TestParent(t *testing.T) {
	isOwn(t, "self^^.a", in(8, "a", of(11, of(11, self))))
	isOwn(t, "(a + b)^", of(11, of(20, a, b)))
	isOwn(t, "size(a^)", of(14, of(11, a)))
	isOwn(t, "a^+ b", of(20, of(11, a), b))
	isOwn(t, "a^- -5", of(21, of(11, a), num(-5)))
	isOwn(t, "a^!= b^", of(24, of(11, a), of(11, b)))
	isOwn(t, "a^and b^or c", of(28, of(27, of(11, a), of(11, b)), c))
	isOwn(t, "if a^then b^else c^end", of(30, of(11, a), of(11, b), of(11, c)))
	isOwn(t, "any x in a^: b^end", loop(31, "x", of(11, a), of(11, b)))
	for _, s := range []string{"a^ + b", "a ^+b", "a ^ + b"} {
		reads(t, s, of(20, of(11, a), b))
	}
}

// P8.2: lists that are no tree, or stand in another order, and nodes that are not as the table says.
func TestWrongLists(t *testing.T) {
	leaf := api.ENode{Kind: api.ESelf}
	sum := func(kids ...int) api.ENode { return api.ENode{Kind: api.EAdd, Kids: kids} }
	not := func(kids ...int) api.ENode { return api.ENode{Kind: api.ENot, Kids: kids} }
	for _, l := range [][]api.ENode{
		nil, {}, {leaf, leaf}, {not(0)}, {not(1)}, {not(-1)}, {not(math.MinInt)}, {not(math.MaxInt)}, {not(2), leaf}, {not(1), leaf, leaf},
		{not(1), not(0)}, {not(1), not(1)}, {leaf, not(1)}, {not(2), leaf, leaf}, {not(2), leaf, not(1)}, {not(1), not(2), not(1)},
		{sum(1, 1), leaf}, {sum(1, 1), leaf, leaf}, {sum(2, 1), leaf, leaf}, {sum(1, 3), leaf, leaf}, {sum(1, 0), leaf}, {sum(0, 1), leaf},
		{sum(1, 2), not(3), leaf, leaf}, {sum(1, 2), not(2), leaf}, {sum(1, 3), not(2), leaf, leaf, leaf}, {sum(3, 1), not(2), leaf, leaf}, {leaf, sum(0, 2), leaf},
		{not(1), leaf, not(3), leaf}, {not(1), leaf, not(2)}, {not(1), leaf, not(3), not(2)},
	} {
		isWrong(t, l, api.ErrExpr)
	}
	for _, kind := range []int{math.MinInt, -1, 0, 35, 36, 257, math.MaxInt} {
		isWrong(t, []api.ENode{{Kind: kind}}, api.ErrExpr)
		isWrong(t, []api.ENode{{Kind: kind, Text: "a", Kids: []int{1}}, leaf}, api.ErrExpr)
		isWrong(t, []api.ENode{{Kind: kind, Kids: []int{1, 2}}, leaf, leaf}, api.ErrExpr)
	}
	for _, r := range rows {
		for kids := range 5 {
			n := api.ENode{Kind: r.kind}
			if r.named {
				n.Text = "a"
			}
			l := []api.ENode{n}
			for i := range kids {
				l[0].Kids = append(l[0].Kids, i+1)
				l = append(l, leaf)
			}
			if kids != r.kids {
				isWrong(t, l, api.ErrExpr)
			} else if err := expr.Right(api.Expr{Nodes: l}); err != api.OK {
				t.Errorf("Right(%+v): %d", l, err)
			}
		}
	}
}

// P8.2: a Text or an Int where none is told, a Text that is none for its Kind.
func TestWrongNodes(t *testing.T) {
	full := strings.Repeat("a", 32)
	for _, r := range rows {
		x := tree{kind: r.kind}
		for range r.kids {
			x.kids = append(x.kids, self)
		}
		spoilt := func(text string, n int64) []api.ENode {
			l := x.expr().Nodes
			l[0].Text, l[0].Int = text, n
			return l
		}
		for _, n := range []int64{0, 1, -1, 5, math.MaxInt64, math.MinInt64, math.MinInt64 + 1} {
			for _, s := range []string{
				"", "a", "Z9_", full, full + "a", "1", "_a", "?a", "?", "a b", "a\n", " a", "\u00e9", "+", "and", "any", "concept", "else", "end", "every", "false", "first", "id", "if", "in", "int", "none", "not", "only", "or", "self", "size", "sum", "text", "then", "true", "True",
				strings.Repeat("b", 4096), strings.Repeat("\x00", 4096), strings.Repeat("b", 4097), strings.Repeat("b", 1<<20),
			} {
				l := spoilt(s, n)
				if mayBe(l[0]) {
					if err := expr.Right(api.Expr{Nodes: l}); err != api.OK {
						t.Fatalf("Right(%.100v): %d", l, err)
					}
				} else {
					isWrong(t, l, api.ErrExpr)
				}
			}
		}
	}
	isWrong(t, []api.ENode{{Kind: 1, Int: math.MinInt64}}, api.ErrExpr)
	isWrong(t, []api.ENode{{Kind: 7, Text: "not"}}, api.ErrExpr)
	isWrong(t, []api.ENode{{Kind: 7}}, api.ErrExpr)
	isWrong(t, []api.ENode{{Kind: 3, Text: "true"}}, api.ErrExpr)
	isWrong(t, []api.ENode{{Kind: 29, Kids: []int{1}}, {Kind: 5, Int: 1}}, api.ErrExpr)
}

// P8.4: each node of an expression, and numbers outside.
func TestPart(t *testing.T) {
	e := of(30, in(8, "a", self), of(20, a, of(22, num(-5), b)), loop(31, "x", str("l\n"), variable("x")))
	for at, want := range e.parts() {
		if p, err := expr.Part(e.expr(), at); err != api.OK || !same(p, want.expr()) {
			t.Errorf("Part(%d): %+v, %d; not %+v", at, p, err, want.expr())
		}
	}
	n := e.size()
	for _, at := range []int{math.MinInt, -1, n, n + 1, math.MaxInt} {
		if p, err := expr.Part(e.expr(), at); err != api.ErrArg || len(p.Nodes) != 0 {
			t.Errorf("Part(%d): %+v, %d", at, p, err)
		}
	}
	for _, at := range []int{-1, 1} {
		if p, err := expr.Part(a.expr(), at); err != api.ErrArg || len(p.Nodes) != 0 {
			t.Errorf("Part(%d) of one node: %+v, %d", at, p, err)
		}
	}
}
