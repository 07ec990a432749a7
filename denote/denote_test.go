package denote_test

import (
	"math"
	"slices"
	"strconv"
	"strings"
	"testing"

	"topiary/api"
	"topiary/denote"
	"topiary/expr"
	"topiary/meta"
	"topiary/sheet"
)

// A world is some languages, their table, and a model.
type world struct {
	ls    []api.Language
	table *meta.Table
	m     api.Model
}

func newWorld(t *testing.T, m api.Model) world {
	t.Helper()
	table, f := meta.New(languages())
	if f.Err != api.OK {
		t.Fatal(f)
	}
	return world{languages(), table, m}
}

// worldOf is that of a model's text.
func worldOf(t *testing.T, lines ...string) world {
	t.Helper()
	m, line, err := sheet.Parse(strings.Join(lines, "\n") + "\n")
	if err != api.OK {
		t.Fatal(line, err)
	}
	return newWorld(t, m)
}

// small is the model of the chapter's examples.
func small(t *testing.T) world {
	t.Helper()
	return worldOf(t, "next 5", "1 List", ` .name="l"`, " 2 item Num", `  .v="5"`, " 3 item Num", `  .v="7"`, " 4 item Sum", "  >to=2")
}

// wide has several roots and roles, a reference to what is gone, a concept that no language has, and a wrapper.
func wide(t *testing.T) world {
	t.Helper()
	return worldOf(t,
		"next 30", "1 List", ` .name="l"`,
		" 2 item Num", `  .v="5"`,
		" 3 note Other",
		" 4 item Sum", `  .v="-9223372036854775808"`, "  >to=2",
		"  6 arg Num", `   .v="9223372036854775807"`,
		"  7 arg Neg", `   .v="x"`, "   >to=4",
		" 5 item Num", `  .v="7"`, "  >away=19", "  >up=1",
		"8 List", ` .name="m"`, " >to=8",
		"9 ?Kept", " 10 ?kept Num", `  .v="0"`)
}

// items is a root with a kid in the role item for each value of its property v.
func items(t *testing.T, values ...string) world {
	t.Helper()
	l := []string{"next 100", "1 List"}
	for i, v := range values {
		l = append(l, " "+strconv.Itoa(i+2)+" item Num", `  .v="`+v+`"`)
	}
	return worldOf(t, l...)
}

// read is the expression of a text.
func read(t *testing.T, s string) api.Expr {
	t.Helper()
	e, at, err := expr.Parse(s)
	if err != api.OK {
		t.Fatalf("Parse(%.300q): %d, %d", s, at, err)
	}
	return e
}

// text is what a test tells of an expression.
func text(e api.Expr) string {
	s, err := expr.Print(e)
	if err != api.OK {
		return err.Error()
	}
	return s
}

// answers asks what Of is to tell with so much fuel.
func (w world) answers(t *testing.T, e api.Expr, self, fuel int, want come) {
	t.Helper()
	v, steps, err := denote.Of(w.table, w.m, e, self, fuel)
	if got := (come{v, err, steps}); !sameValue(v, want.v) || err != want.err || steps != want.steps {
		t.Fatalf("Of(%.300s) at %d with %d: %.300s; not %.300s", text(e), self, fuel, got.show(), want.show())
	}
}

// asked asks all that is told of an expression that is right, with each fuel from 0 to more than it takes, or with some of them; and answers what it comes to.
func (w world) asked(t *testing.T, e api.Expr, self int) come {
	t.Helper()
	c := slow{ls: w.ls, m: w.m, self: self, expr: e.Nodes}.come()
	fuels := []int{0, 1, 2, 3, c.steps / 2, c.steps - 2, c.steps - 1, c.steps, c.steps + 1, c.steps + 2, 2 * c.steps, api.MaxFuel - 1, api.MaxFuel}
	if c.steps < 200 {
		for fuel := range c.steps + 4 {
			fuels = append(fuels, fuel)
		}
	}
	for _, fuel := range fuels {
		if fuel >= 0 && fuel <= api.MaxFuel {
			w.answers(t, e, self, fuel, c.with(fuel))
		}
	}
	return c
}

// is asks that an expression comes to that, told as show does.
func (w world) is(t *testing.T, s string, self int, want string) {
	t.Helper()
	if c := w.asked(t, read(t, s), self); c.show() != want {
		t.Fatalf("%.300s at %d: %s; not %s", s, self, c.show(), want)
	}
}

// fails asks that an expression comes to that error, by so many steps.
func (w world) fails(t *testing.T, s string, self int, err api.Errno, steps int) {
	t.Helper()
	w.is(t, s, self, come{err: err, steps: steps}.show())
}

// P10.1: the chapter's examples.
func TestExamples(t *testing.T) {
	w := small(t)
	w.is(t, "self.name", 1, `"l", 2 steps`)
	w.is(t, "sum x in self#item: if x?Num then int(x.v) else 0 end end", 1, "12, 22 steps")
	w.is(t, "size(self!!Item)", 1, "3, 6 steps")
	w.is(t, "self->to.v", 4, `"5", 3 steps`)
	w.fails(t, "self->to.v", 2, api.ErrNone, 3)
	w.is(t, `any x in self#item: x.v == "5" end`, 1, "true, 8 steps")
	w.fails(t, "1 + true", 1, api.ErrKind, 3)
	w.fails(t, "x", 1, api.ErrVar, 1)
	w.fails(t, `int("a")`, 1, api.ErrTexts, 2)
	w.fails(t, "9223372036854775807 + 1", 1, api.ErrOver, 3)
	w.is(t, "false and x", 1, "false, 2 steps")
	w.answers(t, read(t, "self.name"), 1, 1, come{err: api.ErrFuel})
}

// P10.1: what has no kids.
func TestLeaves(t *testing.T) {
	w := wide(t)
	w.is(t, "7", 1, "7, 1 steps")
	w.is(t, "-9223372036854775807", 0, "-9223372036854775807, 1 steps")
	w.is(t, `"a\n\xff\x00"`, 1, `"a\n\xff\x00", 1 steps`)
	w.is(t, `""`, 1, `"", 1 steps`)
	w.is(t, "true", 1, "true, 1 steps")
	w.is(t, "false", 1, "false, 1 steps")
	w.is(t, "none", 1, "@0, 1 steps")
	for _, id := range []int{0, 1, 2, 3, 4, 5, 6, 7, 8, 9, 10} {
		w.is(t, "self", id, "@"+strconv.Itoa(id)+", 1 steps")
	}
	w.fails(t, "v", 2, api.ErrVar, 1)
}

// P10.1: what is asked of a node.
func TestOfNodes(t *testing.T) {
	w := wide(t)
	w.is(t, "self.name", 1, `"l", 2 steps`)
	w.is(t, "self.v", 4, `"-9223372036854775808", 2 steps`)
	w.is(t, "self.w", 2, `"", 2 steps`)
	w.is(t, "self.name", 3, `"", 2 steps`)
	w.is(t, "self#item", 1, "[2 4 5], 2 steps")
	w.is(t, "self#note", 1, "[3], 2 steps")
	w.is(t, "self#arg", 1, "[], 2 steps")
	w.is(t, "self#arg", 4, "[6 7], 2 steps")
	w.is(t, "self#kept", 9, "[], 2 steps")
	w.is(t, "self->to", 4, "@2, 2 steps")
	w.is(t, "self->to", 8, "@8, 2 steps")
	w.is(t, "self->up", 5, "@1, 2 steps")
	w.is(t, "self->to", 5, "@0, 2 steps")
	w.is(t, "self->to", 1, "@0, 2 steps")
	w.is(t, "self->away", 5, "@0, 2 steps")
	w.is(t, "self->to->to->v", 7, "@0, 4 steps")
	w.is(t, "self^", 7, "@4, 2 steps")
	w.is(t, "self^^", 7, "@1, 3 steps")
	w.is(t, "self^", 10, "@9, 2 steps")
	for _, root := range []int{1, 8, 9} {
		w.is(t, "self^", root, "@0, 2 steps")
	}
	w.is(t, "concept(self)", 2, `"Num", 2 steps`)
	w.is(t, "concept(self)", 9, `"?Kept", 2 steps`)
	w.is(t, "concept(self)", 3, `"Other", 2 steps`)
	w.is(t, "id(self)", 10, "10, 2 steps")
	w.is(t, "id(self^)", 10, "9, 3 steps")
}

// P10.1: which concepts are below which, by the table; each node below takes a step.
func TestConcepts(t *testing.T) {
	w := wide(t)
	w.is(t, "self?Num", 2, "true, 2 steps")
	w.is(t, "self?Item", 2, "true, 2 steps")
	w.is(t, "self?Sum", 2, "false, 2 steps")
	w.is(t, "self?Item", 1, "false, 2 steps")
	w.is(t, "self?Sum", 7, "true, 2 steps")
	w.is(t, "self?Item", 7, "true, 2 steps")
	w.is(t, "self?Neg", 4, "false, 2 steps")
	// A concept that no language has is that one alone.
	w.is(t, "self?Other", 3, "true, 2 steps")
	w.is(t, "self?Item", 3, "false, 2 steps")
	w.is(t, "self?Kept", 9, "false, 2 steps")
	w.is(t, "self!!Item", 1, "[2 4 6 7 5], 8 steps")
	w.is(t, "self!!Num", 1, "[2 6 5], 8 steps")
	w.is(t, "self!!Sum", 1, "[4 7], 8 steps")
	w.is(t, "self!!Other", 1, "[3], 8 steps")
	w.is(t, "self!!Nobody", 1, "[], 8 steps")
	// The node itself is not below itself, nor is another root.
	w.is(t, "self!!List", 1, "[], 8 steps")
	w.is(t, "self!!Sum", 4, "[7], 4 steps")
	w.is(t, "self!!Num", 9, "[10], 3 steps")
	w.is(t, "self!!Num", 2, "[], 2 steps")
	w.is(t, "size(self!!Item) + size(self!!Num)", 1, "8, 19 steps")
}

// P10.1: a table that is nil, or that nobody made, is one of no languages.
func TestNoTable(t *testing.T) {
	for _, table := range []*meta.Table{nil, new(meta.Table)} {
		w := world{nil, table, wide(t).m}
		w.is(t, "self?Num", 2, "true, 2 steps")
		w.is(t, "self?Item", 2, "false, 2 steps")
		w.is(t, "self!!Num", 1, "[2 6 5], 8 steps")
		w.is(t, "self!!Item", 1, "[], 8 steps")
		w.is(t, "sum x in self#item: int(x.v) end", 8, "0, 3 steps")
		w.is(t, "self.name", 1, `"l", 2 steps`)
		if table.Uses() != 0 {
			t.Errorf("%d uses", table.Uses())
		}
	}
}

// P10.1: what is asked of lists, ints and texts.
func TestOfOthers(t *testing.T) {
	w := wide(t)
	w.is(t, "size(self#item)", 1, "3, 3 steps")
	w.is(t, "size(self#w)", 1, "0, 3 steps")
	w.is(t, "first(self#item)", 1, "@2, 3 steps")
	w.is(t, "first(self!!Sum)", 1, "@4, 9 steps")
	w.is(t, "first(self#w)", 1, "@0, 3 steps")
	w.fails(t, "first(self#w).v", 1, api.ErrNone, 4)
	w.is(t, "text(0)", 1, `"0", 2 steps`)
	w.is(t, "text(-12)", 1, `"-12", 2 steps`)
	w.is(t, "text(int(self.v))", 4, `"-9223372036854775808", 4 steps`)
	w.is(t, "int(self.v)", 4, "-9223372036854775808, 3 steps")
	w.is(t, `int("9223372036854775807")`, 1, "9223372036854775807, 2 steps")
	for _, s := range []string{"", "a", "+1", "-0", "01", " 1", "1 ", "9223372036854775808", "-9223372036854775809", "1.0", "1e3", "0x1", "1_0"} {
		w.fails(t, "int("+strconv.Quote(s)+")", 1, api.ErrTexts, 2)
	}
	w.fails(t, "int(self.w)", 2, api.ErrTexts, 3)
}

// P10.1: where a node is asked for: another Kind, none, or one that isn't in the model.
func TestNone(t *testing.T) {
	w := wide(t)
	for _, s := range []string{"(%).a", "(%)#a", "(%)->a", "(%)^", "(%)?Num", "(%)!!Num", "concept(%)", "id(%)"} {
		of := func(kid string) string { return strings.ReplaceAll(s, "%", kid) }
		w.fails(t, of("none"), 1, api.ErrNone, 2)
		w.fails(t, of("self"), 0, api.ErrNone, 2)
		w.fails(t, of("self^"), 1, api.ErrNone, 3)
		w.fails(t, of("self->away"), 5, api.ErrNone, 3)
		w.fails(t, of("self->w"), 5, api.ErrNone, 3)
		w.fails(t, of("first(self#w)"), 5, api.ErrNone, 4)
		w.fails(t, of("1"), 1, api.ErrKind, 2)
		w.fails(t, of(`"2"`), 1, api.ErrKind, 2)
		w.fails(t, of("true"), 1, api.ErrKind, 2)
		w.fails(t, of("self#item"), 1, api.ErrKind, 3)
		w.fails(t, of("x"), 1, api.ErrVar, 2)
	}
	// Where none is asked for, none is as good as any.
	w.is(t, "none == self->away", 5, "true, 4 steps")
	w.is(t, "self == none", 0, "true, 3 steps")
	w.is(t, "if true then none else self end", 1, "@0, 3 steps")
}

// P10.1: kids of another Kind, one by one.
func TestKinds(t *testing.T) {
	w := wide(t)
	ofKind := map[string][]string{"int": {"1"}, "text": {`"1"`}, "bool": {"true"}, "node": {"self", "none"}, "list": {"self#item", "self#w"}}
	for kind, l := range ofKind {
		for _, s := range l {
			steps := 1 + len(read(t, s).Nodes)
			for asking, of := range map[string][]string{"list": {"size(%)", "first(%)"}, "int": {"text(%)"}, "text": {"int(%)"}, "bool": {"not (%)"}} {
				for _, o := range of {
					if kind != asking {
						w.fails(t, strings.ReplaceAll(o, "%", s), 1, api.ErrKind, steps)
					}
				}
			}
			if kind != "bool" {
				w.fails(t, "("+s+") and x", 1, api.ErrKind, steps)
				w.fails(t, "("+s+") or x", 1, api.ErrKind, steps)
				w.fails(t, "true and ("+s+")", 1, api.ErrKind, steps+1)
				w.fails(t, "false or ("+s+")", 1, api.ErrKind, steps+1)
				w.fails(t, "if "+s+" then x else y end", 1, api.ErrKind, steps)
				w.fails(t, "any x in self#arg: "+s+" end", 4, api.ErrKind, 3+steps)
				w.fails(t, "every x in self#arg: "+s+" end", 4, api.ErrKind, 3+steps)
				w.fails(t, "only x in self#arg: "+s+" end", 4, api.ErrKind, 3+steps)
			}
			if kind != "int" {
				w.fails(t, "sum x in self#arg: "+s+" end", 4, api.ErrKind, 3+steps)
			}
			if kind != "list" {
				for _, loop := range []string{"any", "every", "only", "sum"} {
					w.fails(t, loop+" x in "+s+": y end", 1, api.ErrKind, steps)
				}
			}
		}
	}
}

// P10.1: of two kids each pair of Kinds, the first error being that of a kid.
func TestPairs(t *testing.T) {
	w := wide(t)
	all := map[string][]string{"int": {"1", "2"}, "text": {`"1"`, `"2"`}, "bool": {"true", "false"}, "node": {"self", "none"}, "list": {"self#item", "self#item"}}
	fit := map[string]string{"+": "int text", "-": "int", "*": "int", "==": "int text bool node", "!=": "int text bool node", "<": "int text", "<=": "int text"}
	for sign, kinds := range fit {
		for a, l := range all {
			for b, r := range all {
				s := "(" + l[0] + ") " + sign + " (" + r[1] + ")"
				steps := len(read(t, s).Nodes)
				if a != b || !strings.Contains(kinds, a) {
					w.fails(t, s, 1, api.ErrKind, steps)
				} else if c := w.asked(t, read(t, s), 1); c.err != api.OK || c.steps != steps {
					t.Fatalf("%s: %s", s, c.show())
				}
			}
			// Both are evaluated ahead of their Kinds being asked.
			steps := 1 + len(read(t, l[0]).Nodes)
			w.fails(t, "("+l[0]+") "+sign+" x", 1, api.ErrVar, steps+1)
			w.fails(t, "x "+sign+" ("+l[0]+")", 1, api.ErrVar, 2)
			w.fails(t, "("+l[0]+") "+sign+" none.v", 1, api.ErrNone, steps+2)
			w.fails(t, "("+l[0]+") "+sign+` int("x")`, 1, api.ErrTexts, steps+2)
			w.fails(t, "("+l[0]+") "+sign+" (not 1)", 1, api.ErrKind, steps+2)
		}
		w.fails(t, "x "+sign+" none.v", 1, api.ErrVar, 2)
		w.fails(t, "none.v "+sign+" x", 1, api.ErrNone, 3)
	}
}

// P10.1: which of two is less, the same, or greater.
func TestCompared(t *testing.T) {
	w := wide(t)
	rising := [][]string{
		{`int("-9223372036854775808")`, "-9223372036854775807", "-10", "-9", "-1", "0", "1", "9", "10", "9223372036854775807"},
		{`""`, `"\x00"`, `"\x00\x00"`, `"-1"`, `"0"`, `"10"`, `"9"`, `"A"`, `"Z"`, `"a"`, `"aa"`, `"b"`, `"\x7f"`, `"\x80"`, `"\xc3\xa4"`, `"\xff"`, `"\xff\x00"`},
	}
	for _, l := range rising {
		for i, a := range l {
			for k, b := range l {
				w.is(t, a+" < "+b, 1, truthTold(i < k, read(t, a+" < "+b)))
				w.is(t, a+" <= "+b, 1, truthTold(i <= k, read(t, a+" <= "+b)))
				w.is(t, a+" == "+b, 1, truthTold(i == k, read(t, a+" == "+b)))
				w.is(t, a+" != "+b, 1, truthTold(i != k, read(t, a+" != "+b)))
			}
		}
	}
	nodes := []string{"self", "none", "self^", "first(self#arg)"}
	bools := []string{"true", "false"}
	for _, l := range [][]string{nodes, bools} {
		for i, a := range l {
			for k, b := range l {
				w.is(t, a+" == "+b, 4, truthTold(i == k, read(t, a+" == "+b)))
				w.is(t, a+" != "+b, 4, truthTold(i != k, read(t, a+" != "+b)))
			}
		}
	}
	// Lists are not held against each other, be they the same, or of no nodes.
	for _, sign := range []string{"==", "!=", "<", "<=", "+"} {
		w.fails(t, "self#item "+sign+" self#item", 1, api.ErrKind, 5)
		w.fails(t, "self#w "+sign+" self#w", 1, api.ErrKind, 5)
		w.fails(t, "self#item "+sign+" self", 1, api.ErrKind, 4)
		w.fails(t, "self "+sign+" self#item", 1, api.ErrKind, 4)
	}
}

// truthTold is that bool as come's show tells it, each node having taken a step.
func truthTold(b bool, e api.Expr) string {
	return come{v: truth(b), steps: len(e.Nodes)}.show()
}

// intTree is an expression that comes to that int, whichever it is.
func intTree(n int64) tree {
	if n == math.MinInt64 {
		return tree{kind: api.ERead, kids: []tree{{kind: api.EText, text: "-9223372036854775808"}}}
	}
	return tree{kind: api.EInt, num: n}
}

// P10.1: sums, differences and products at both ends of 64 bits.
func TestInts(t *testing.T) {
	w := wide(t)
	l := []int64{0, 1, -1, 2, -2, 3, -3, 7, 1 << 31, -1 << 31, 1<<31 - 1, 1 << 32, -1 << 32, 1 << 62, -1 << 62, 1<<62 - 1, 1<<62 + 1, 3037000499, 3037000500, -3037000499, -3037000500, math.MaxInt64, math.MinInt64, math.MaxInt64 - 1, math.MinInt64 + 1, math.MaxInt64 / 3, math.MinInt64 / 3, math.MaxInt64/3 + 1, math.MinInt64/3 - 1}
	count := map[api.Errno]int{}
	for kind := api.EAdd; kind <= api.EMul; kind++ {
		for _, a := range l {
			for _, b := range l {
				count[w.asked(t, tree{kind: kind, kids: []tree{intTree(a), intTree(b)}}.expr(), 1).err]++
			}
		}
	}
	if count[api.OK] < 500 || count[api.ErrOver] < 500 {
		t.Errorf("%v", count)
	}
	w.is(t, "9223372036854775806 + 1", 1, "9223372036854775807, 3 steps")
	w.fails(t, "9223372036854775807 + 1", 1, api.ErrOver, 3)
	w.is(t, "-9223372036854775807 - 1", 1, "-9223372036854775808, 3 steps")
	w.fails(t, "-9223372036854775807 - 2", 1, api.ErrOver, 3)
	w.fails(t, "0 - (-9223372036854775807 - 1)", 1, api.ErrOver, 5)
	w.is(t, "-1 - (-9223372036854775807 - 1)", 1, "9223372036854775807, 5 steps")
	w.is(t, "4611686018427387904 * -2", 1, "-9223372036854775808, 3 steps")
	w.fails(t, "4611686018427387904 * 2", 1, api.ErrOver, 3)
	w.fails(t, "(-9223372036854775807 - 1) * -1", 1, api.ErrOver, 5)
	w.fails(t, "-1 * (-9223372036854775807 - 1)", 1, api.ErrOver, 5)
	w.is(t, "(-9223372036854775807 - 1) * 1", 1, "-9223372036854775808, 5 steps")
	w.is(t, "0 * (-9223372036854775807 - 1)", 1, "0, 5 steps")
	// What is over is over, whatever would be done with it.
	w.fails(t, "9223372036854775807 + 1 - 1", 1, api.ErrOver, 4)
	w.fails(t, "0 * (9223372036854775807 + 1)", 1, api.ErrOver, 5)
	w.fails(t, "9223372036854775807 + 1 - x", 1, api.ErrOver, 4)
}

// P10.1: sums of loops, added one by one.
func TestSums(t *testing.T) {
	const s = "sum x in self#item: int(x.v) end"
	top, bottom := "9223372036854775807", "-9223372036854775808"
	items(t).is(t, s, 1, "0, 3 steps")
	items(t, "5").is(t, s, 1, "5, 7 steps")
	items(t, "5", "-7").is(t, s, 1, "-2, 11 steps")
	items(t, top, "-1", "1").is(t, s, 1, top+", 15 steps")
	items(t, bottom, "1", "-1").is(t, s, 1, bottom+", 15 steps")
	items(t, top, bottom).is(t, s, 1, "-1, 11 steps")
	// Beyond and back.
	items(t, top, "1", "-5").fails(t, s, 1, api.ErrOver, 11)
	items(t, bottom, "-1", "5").fails(t, s, 1, api.ErrOver, 11)
	items(t, "1", top, bottom).fails(t, s, 1, api.ErrOver, 11)
	items(t, "-5", top, "1", "1").is(t, s, 1, "9223372036854775804, 19 steps")
	// Of two errors the one that comes first.
	items(t, top, "1", "x").fails(t, s, 1, api.ErrOver, 11)
	items(t, top, "x", "1").fails(t, s, 1, api.ErrTexts, 11)
	items(t, "x", top, "1").fails(t, s, 1, api.ErrTexts, 7)
	items(t, top, "1").fails(t, `sum x in self#item: if x.v == "1" then x else int(x.v) end end`, 1, api.ErrKind, 19)
}

// P10.1: texts one behind the other, of at most 4096 bytes.
func TestTexts(t *testing.T) {
	long := func(n int) string { return strings.Repeat("t", n) }
	w := items(t, long(4096), long(4095), long(2048), "u", "")
	w.is(t, `"a" + "b"`, 1, `"ab", 3 steps`)
	w.is(t, `"" + ""`, 1, `"", 3 steps`)
	w.is(t, `"a" + "b" + "\n"`, 1, `"ab\n", 5 steps`)
	w.is(t, `"1" + text(2)`, 1, `"12", 4 steps`)
	for a := 2; a <= 6; a++ {
		for b := 2; b <= 6; b++ {
			e := tree{kind: api.EAdd, kids: []tree{idProp(a), idProp(b)}}.expr()
			lengths := []int{4096, 4095, 2048, 1, 0}
			c := w.asked(t, e, 1)
			if long := lengths[a-2]+lengths[b-2] > 4096; long != (c.err == api.ErrLong) || long == (c.err == api.OK) {
				t.Fatalf("%d, %d: %d", a, b, c.err)
			}
		}
	}
	for _, n := range []int{2047, 2048, 2049} {
		two := tree{kind: api.EAdd, kids: []tree{{kind: api.EText, text: long(2048)}, {kind: api.EText, text: long(n)}}}
		if c := w.asked(t, two.expr(), 1); (c.err == api.ErrLong) != (n > 2048) {
			t.Errorf("%d: %d", n, c.err)
		}
	}
	// Bytes are counted, not letters; what is too long is so, whatever would be done with it.
	two := tree{kind: api.EAdd, kids: []tree{{kind: api.EText, text: strings.Repeat("ä", 2048)}, {kind: api.EText, text: "b"}}}
	if c := w.asked(t, two.expr(), 1); c.err != api.ErrLong {
		t.Error(c.err)
	}
	two.kids[0].text = long(4096)
	if c := w.asked(t, tree{kind: api.EEq, kids: []tree{two, {kind: api.EVar, text: "x"}}}.expr(), 1); c.err != api.ErrLong || c.steps != 4 {
		t.Error(c.show())
	}
}

// idProp asks for the property v of the kid at which id is that.
func idProp(id int) tree {
	x := tree{kind: api.EVar, text: "x"}
	same := tree{kind: api.EEq, kids: []tree{{kind: api.EID, kids: []tree{x}}, {kind: api.EInt, num: int64(id)}}}
	of := tree{kind: api.EOnly, text: "x", kids: []tree{{kind: api.EKids, text: "item", kids: []tree{{kind: api.ESelf}}}, same}}
	return tree{kind: api.EProp, text: "v", kids: []tree{{kind: api.EFirst, kids: []tree{of}}}}
}

// P10.1, P10.3: what is not evaluated, and what is.
func TestNotEvaluated(t *testing.T) {
	w := wide(t)
	w.is(t, "true and true", 1, "true, 3 steps")
	w.is(t, "true and false", 1, "false, 3 steps")
	w.is(t, "false or true", 1, "true, 3 steps")
	w.is(t, "false or false", 1, "false, 3 steps")
	w.is(t, "not true", 1, "false, 2 steps")
	w.is(t, "not false", 1, "true, 2 steps")
	for _, s := range []string{"x", "1", "none.v", `int("a")`, "self#item", "9223372036854775807 + 1 == 1", "true", "false"} {
		w.is(t, "false and ("+s+")", 1, "false, 2 steps")
		w.is(t, "true or ("+s+")", 1, "true, 2 steps")
		w.is(t, "if true then 1 else "+s+" end", 1, "1, 3 steps")
		w.is(t, `if false then `+s+` else "b" end`, 1, `"b", 3 steps`)
		w.is(t, "false and x and ("+s+")", 1, "false, 3 steps")
		w.is(t, "any x in self#w: "+s+" end", 1, "false, 3 steps")
		w.is(t, "every x in self#w: "+s+" end", 1, "true, 3 steps")
		w.is(t, "only x in self#w: "+s+" end", 1, "[], 3 steps")
		w.is(t, "sum x in self#w: "+s+" end", 1, "0, 3 steps")
	}
	w.fails(t, "true and x", 1, api.ErrVar, 3)
	w.fails(t, "false or x", 1, api.ErrVar, 3)
	w.fails(t, "x and true", 1, api.ErrVar, 2)
	w.fails(t, "true and 1", 1, api.ErrKind, 3)
	w.fails(t, "false or self", 1, api.ErrKind, 3)
	w.fails(t, "if true then x else 1 end", 1, api.ErrVar, 3)
	w.fails(t, "if false then 1 else x end", 1, api.ErrVar, 3)
	w.fails(t, "if x then 1 else 2 end", 1, api.ErrVar, 2)
	// The two of an EIf may be of any kinds.
	w.is(t, "if self?List then self#item else 1 end", 1, "[2 4 5], 5 steps")
	w.is(t, "if self?List then self#item else 1 end", 2, "1, 4 steps")
}

// P10.1, P10.3: loops that end early, and those that do not.
func TestLoops(t *testing.T) {
	w := wide(t)
	w.is(t, "any x in self#item: x?Sum end", 1, "true, 9 steps")
	w.is(t, "any x in self#item: x?List end", 1, "false, 12 steps")
	w.is(t, "every x in self#item: x?Num end", 1, "false, 9 steps")
	w.is(t, "every x in self#item: x?Item end", 1, "true, 12 steps")
	w.is(t, "only x in self#item: x?Num end", 1, "[2 5], 12 steps")
	w.is(t, "only x in self#item: x?List end", 1, "[], 12 steps")
	w.is(t, "only x in self!!Item: x?Num end", 1, "[2 6 5], 24 steps")
	w.is(t, "sum x in self#item: id(x) end", 1, "11, 12 steps")
	// What stands behind the first true of an any (the first false of an every) may be wrong.
	w.is(t, "any x in self#item: if x?Sum then true else x == self->up end end", 1, "true, 16 steps")
	w.is(t, "any x in self#item: if id(x) == 4 then true else if id(x) == 5 then y else false end end end", 1, "true, 22 steps")
	w.is(t, "every x in self#item: if id(x) == 4 then false else if id(x) == 5 then y else true end end end", 1, "false, 22 steps")
	w.fails(t, "any x in self#item: if id(x) == 5 then y else false end end", 1, api.ErrVar, 24)
	w.fails(t, "only x in self#item: if id(x) == 5 then 1 else true end end", 1, api.ErrKind, 24)
	w.fails(t, "any x in self#item: if id(x) == 4 then 1 else x?Sum end end", 1, api.ErrKind, 18)
	w.fails(t, "every x in self#item: if id(x) == 4 then 1 else x?Num end end", 1, api.ErrKind, 18)
	w.fails(t, "sum x in self#item: if id(x) == 4 then true else 1 end end", 1, api.ErrKind, 17)
	w.fails(t, "sum x in none#item: 1 end", 1, api.ErrNone, 3)
}

// P10.1: at which node a variable is.
func TestVariables(t *testing.T) {
	w := wide(t)
	w.is(t, "sum x in self#item: sum y in self#item: id(x) * id(y) end end", 1, "121, 69 steps")
	w.is(t, "sum x in self#item: sum y in x#arg: id(x) end end", 1, "8, 21 steps")
	w.is(t, "any x in self#item: any y in x#arg: y^ == x end end", 1, "true, 16 steps")
	// The same name twice: the inner one within, the outer one in its list and behind it.
	w.is(t, "sum x in self#item: (sum x in x#arg: id(x) end) + id(x) end", 1, "24, 30 steps")
	w.is(t, "sum x in self#item: id(x) + (sum x in x#arg: id(x) end) end", 1, "24, 30 steps")
	w.is(t, "sum x in self#item: sum y in x#arg: sum x in y^#arg: id(x) end end end", 1, "26, 37 steps")
	w.is(t, "any x in self#item: any x in x#arg: x?Neg end end", 1, "true, 17 steps")
	// In its own loop's list it is the one around it, or none.
	for _, loop := range []string{"any", "every", "only", "sum"} {
		w.fails(t, loop+" x in x#item: true end", 1, api.ErrVar, 3)
		w.fails(t, loop+" x in x: true end", 1, api.ErrVar, 2)
		w.fails(t, loop+" y in self#item: x end", 1, api.ErrVar, 5)
		w.fails(t, "size(self#item) == x", 1, api.ErrVar, 5)
	}
	w.is(t, "sum x in (only x in self#item: x?Num end): id(x) end", 1, "7, 19 steps")
	w.fails(t, "sum x in (only y in self#item: y?Num end): id(y) end", 1, api.ErrVar, 16)
	// Behind the loop it is none.
	w.fails(t, "(any x in self#item: true end) and x?Num", 1, api.ErrVar, 8)
	w.fails(t, "x?Num and (any x in self#item: true end)", 1, api.ErrVar, 3)
	w.fails(t, "(any x in self#item: x?Num end) and (every y in x#item: true end)", 1, api.ErrVar, 10)
	// Names that begin alike are not the same.
	w.fails(t, "any xx in self#item: x?Num end", 1, api.ErrVar, 6)
	w.fails(t, "any x in self#item: X?Num end", 1, api.ErrVar, 6)
}

// P10.1: want of fuel ahead of all else at a node.
func TestFuel(t *testing.T) {
	w := wide(t)
	for _, c := range []struct {
		s    string
		fuel int
		err  api.Errno
	}{
		{"x", 0, api.ErrFuel}, {"x", 1, api.ErrVar},
		{"1 + true", 0, api.ErrFuel}, {"1 + true", 2, api.ErrFuel}, {"1 + true", 3, api.ErrKind},
		{`int("a")`, 1, api.ErrFuel}, {`int("a")`, 2, api.ErrTexts},
		{"x + 1", 1, api.ErrFuel}, {"x + 1", 2, api.ErrVar},
		{"none.v == x", 2, api.ErrFuel}, {"none.v == x", 3, api.ErrNone},
		{"any y in self#item: x end", 3, api.ErrFuel}, {"any y in self#item: x end", 4, api.ErrFuel}, {"any y in self#item: x end", 5, api.ErrVar},
		{"any y in self: x end", 1, api.ErrFuel}, {"any y in self: x end", 2, api.ErrKind},
		{"self!!Item + 1", 8, api.ErrFuel}, {"self!!Item + 1", 9, api.ErrFuel}, {"self!!Item + 1", 10, api.ErrKind},
		{"true and 1", 2, api.ErrFuel}, {"true and 1", 3, api.ErrKind},
		{"9223372036854775807 * 2", 2, api.ErrFuel}, {"9223372036854775807 * 2", 3, api.ErrOver},
	} {
		w.answers(t, read(t, c.s), 1, c.fuel, come{err: c.err})
	}
	w.answers(t, read(t, "self!!Item"), 1, 7, come{err: api.ErrFuel})
	w.answers(t, read(t, "self!!Item"), 1, 8, come{v: list([]int{2, 4, 6, 7, 5}), steps: 8})
}

// P10.1: a variable's name, a role or a property may be any name, and none is mixed up with another one's.
func TestNames(t *testing.T) {
	long := strings.Repeat("n", 32)
	w := worldOf(t, "next 9", "1 A", ` .B="1"`, ` .a="2"`, ` .`+long+`="3"`, " >B=2", " >a=3", " >"+long+"=1", " 2 a A", " 3 "+long+" A", " 4 a "+long)
	w.is(t, "self.a + self.B + self."+long, 1, `"213", 8 steps`)
	w.is(t, "self."+long[1:], 1, `"", 2 steps`)
	w.is(t, "self->a", 1, "@3, 2 steps")
	w.is(t, "self->B", 1, "@2, 2 steps")
	w.is(t, "self->"+long, 1, "@1, 2 steps")
	w.is(t, "self->A", 1, "@0, 2 steps")
	w.is(t, "self->z", 1, "@0, 2 steps")
	w.is(t, "self#a", 1, "[2 4], 2 steps")
	w.is(t, "self#"+long, 1, "[3], 2 steps")
	w.is(t, "self!!"+long, 1, "[4], 5 steps")
	w.is(t, "self!!A", 1, "[2 3], 5 steps")
	w.is(t, "sum "+long+" in self!!A: id("+long+") end", 1, "5, 12 steps")
}

// P10.1: models of no nodes, and of one.
func TestFewNodes(t *testing.T) {
	w := worldOf(t, "next 1")
	w.is(t, "self", 0, "@0, 1 steps")
	w.is(t, "1 + 1", 0, "2, 3 steps")
	w.fails(t, "self!!A", 0, api.ErrNone, 2)
	w = worldOf(t, "next 1048577", "1048576 A")
	w.is(t, "self!!A", 1048576, "[], 2 steps")
	w.is(t, "id(self)", 1048576, "1048576, 2 steps")
	if got := w.asked(t, read(t, "self"), 1048576); !slices.Equal(got.v.List, nil) || got.v.Node != 1048576 {
		t.Error(got.show())
	}
}
