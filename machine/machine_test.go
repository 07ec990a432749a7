package machine_test

import (
	"math"
	"slices"
	"strconv"
	"strings"
	"testing"

	"topiary/api"
	"topiary/code"
	"topiary/expr"
	"topiary/machine"
	"topiary/meta"
	"topiary/sheet"
)

// A world is some languages, their table, and a model.
type world struct {
	ls    []api.Language
	table *meta.Table
	m     api.Model
}

// languages are those of all models of these tests; nobody knows Other.
func languages() []api.Language {
	return []api.Language{
		{Name: "a", Version: 1, Concepts: []api.Concept{{Name: "Item"}, {Name: "Num", Super: "Item"}, {Name: "Sum", Super: "Item"}, {Name: "List"}}},
		{Name: "b", Version: 1, Concepts: []api.Concept{{Name: "Neg", Super: "Sum"}}},
	}
}

func newWorld(t *testing.T, m api.Model) world {
	t.Helper()
	table, f := meta.New(languages())
	if f.Err != api.OK {
		t.Fatal(f)
	}
	return world{languages(), table, m}
}

// worldOf is that of a model's text.
func worldOf(t *testing.T, lines ...string) world {
	t.Helper()
	m, line, err := sheet.Parse(strings.Join(lines, "\n") + "\n")
	if err != api.OK {
		t.Fatal(line, err)
	}
	return newWorld(t, m)
}

// small is the model of the chapter's examples.
func small(t *testing.T) world {
	t.Helper()
	return worldOf(t, "next 5", "1 List", ` .name="l"`, " 2 item Num", `  .v="5"`, " 3 item Num", `  .v="7"`, " 4 item Sum", "  >to=2")
}

// wide has several roots and roles, a reference to what is gone, a concept that no language has, and a wrapper.
func wide(t *testing.T) world {
	t.Helper()
	return worldOf(t,
		"next 30", "1 List", ` .name="l"`,
		" 2 item Num", `  .v="5"`,
		" 3 note Other",
		" 4 item Sum", `  .v="-9223372036854775808"`, "  >to=2",
		"  6 arg Num", `   .v="9223372036854775807"`,
		"  7 arg Neg", `   .v="x"`, "   >to=4",
		" 5 item Num", `  .v="7"`, "  >away=19", "  >up=1",
		"8 List", ` .name="m"`, " >to=8",
		"9 ?Kept", " 10 ?kept Num", `  .v="0"`)
}

// items is a root with a kid in the role item for each value of its property v.
func items(t *testing.T, values ...string) world {
	t.Helper()
	l := []string{"next 100", "1 List"}
	for i, v := range values {
		l = append(l, " "+strconv.Itoa(i+2)+" item Num", `  .v="`+v+`"`)
	}
	return worldOf(t, l...)
}

// of is the code of lines that stand in one row, `, ` between two.
func of(t *testing.T, s string) api.Code {
	t.Helper()
	c, at, err := code.Parse(strings.ReplaceAll(s, ", ", "\n") + "\n")
	if err != api.OK {
		t.Fatalf("Parse(%.300q): %d, %d", s, at, err)
	}
	return c
}

// row is what a test tells of code: its lines in one row.
func row(c api.Code) string {
	s, err := code.Print(c)
	if err != api.OK {
		return "code that isn't right"
	}
	s = strings.ReplaceAll(strings.TrimSuffix(s, "\n"), "\n", ", ")
	return s[:min(len(s), 600)]
}

// read is the expression of a text.
func read(t *testing.T, s string) api.Expr {
	t.Helper()
	e, at, err := expr.Parse(s)
	if err != api.OK {
		t.Fatalf("Parse(%.300q): %d, %d", s, at, err)
	}
	return e
}

// answers asks what Run is to tell with so much fuel.
func (w world) answers(t *testing.T, c api.Code, self, fuel int, want come) {
	t.Helper()
	v, steps, err := machine.Run(w.table, w.m, c, self, fuel)
	if got := (come{v: v, err: err, steps: steps}); !sameValue(v, want.v) || err != want.err || steps != want.steps {
		t.Fatalf("Run(%s) at %d with %d: %.300s; not %.300s", row(c), self, fuel, got.show(), want.show())
	}
}

// begins asks what Profile is to tell with so much fuel.
func (w world) begins(t *testing.T, c api.Code, self, fuel int, want []int, wantErr api.Errno) {
	t.Helper()
	l, err := machine.Profile(w.table, w.m, c, self, fuel)
	if !slices.Equal(l, want) || err != wantErr {
		t.Fatalf("Profile(%s) at %d with %d: %v, %d; not %v, %d", row(c), self, fuel, l, err, want, wantErr)
	}
}

// asked asks all that is told of code that is right, with each fuel from 0 to more than it takes, or with some of them; and answers what it comes to.
func (w world) asked(t *testing.T, c api.Code, self int) come {
	t.Helper()
	all := slow{ls: w.ls, m: w.m, self: self, list: c.List}.come()
	fuels := []int{0, 1, 2, 3, all.steps / 2, all.steps - 2, all.steps - 1, all.steps, all.steps + 1, all.steps + 2, 2 * all.steps, api.MaxFuel - 1, api.MaxFuel}
	if all.steps < 100 {
		for fuel := range all.steps + 4 {
			fuels = append(fuels, fuel)
		}
	}
	for _, fuel := range fuels {
		if fuel >= 0 && fuel <= api.MaxFuel {
			w.answers(t, c, self, fuel, all.with(fuel))
			w.begins(t, c, self, fuel, all.begun(len(c.List), fuel), all.with(fuel).err)
		}
	}
	return all
}

// is asks that code comes to that, told as show does.
func (w world) is(t *testing.T, s string, self int, want string) {
	t.Helper()
	if c := w.asked(t, of(t, s), self); c.show() != want {
		t.Fatalf("%.300s at %d: %s; not %s", s, self, c.show(), want)
	}
}

// fails asks that code comes to that error, by so many steps.
func (w world) fails(t *testing.T, s string, self int, err api.Errno, steps int) {
	t.Helper()
	w.is(t, s, self, come{err: err, steps: steps}.show())
}

// profile asks for a Profile, told as numbers.
func (w world) profile(t *testing.T, s string, self, fuel int, want string, err api.Errno) {
	t.Helper()
	c := of(t, s)
	l, got := machine.Profile(w.table, w.m, c, self, fuel)
	if numbers(l) != want || got != err {
		t.Fatalf("Profile(%s) at %d with %d: %v, %d; not %s, %d", s, self, fuel, l, got, want, err)
	}
}

// anItem is the code of an any over the items of self.
const anItem = "step 3, self, kids item, any, next 12, step 3, load 0, prop v, step 1, text %, eq, take 4"

// P12.1, P12.2: the chapter's examples.
func TestExamples(t *testing.T) {
	w := small(t)
	w.is(t, "step 2, self, prop name", 1, `"l", 2 steps`)
	w.answers(t, of(t, "step 2, self, prop name"), 1, 1, come{err: api.ErrFuel})
	five, seven := strings.ReplaceAll(anItem, "%", `"5"`), strings.ReplaceAll(anItem, "%", `"7"`)
	w.is(t, five, 1, "true, 8 steps")
	w.fails(t, "step 1, free", 1, api.ErrVar, 1)
	w.fails(t, "step 1, self, size", 1, api.ErrKind, 1)
	w.fails(t, "none, prop v", 1, api.ErrNone, 0)
	w.is(t, "self, jump 2", 1, "@1, 0 steps")
	w.profile(t, five, 1, 100, "1 1 1 1 1 1 1 1 1 1 1 1", api.OK)
	w.is(t, seven, 1, "true, 13 steps")
	w.profile(t, seven, 1, 100, "1 1 1 1 2 2 2 2 2 2 2 2", api.OK)
	w.is(t, strings.ReplaceAll(anItem, "%", `"x"`), 1, "false, 18 steps")
}

// P12.1: what puts a value without taking one.
func TestPlain(t *testing.T) {
	w := wide(t)
	w.is(t, "int 7", 1, "7, 0 steps")
	w.is(t, "int -9223372036854775808", 0, "-9223372036854775808, 0 steps")
	w.is(t, `text "a\n\xff\x00"`, 1, `"a\n\xff\x00", 0 steps`)
	w.is(t, `text ""`, 1, `"", 0 steps`)
	w.is(t, "true", 1, "true, 0 steps")
	w.is(t, "false", 1, "false, 0 steps")
	w.is(t, "none", 1, "@0, 0 steps")
	for id := range 11 {
		w.is(t, "self", id, "@"+strconv.Itoa(id)+", 0 steps")
	}
	w.fails(t, "free", 1, api.ErrVar, 0)
	w.fails(t, "int 1, free, add", 1, api.ErrVar, 0)
	w.is(t, "int 5, int 7, sub", 1, "-2, 0 steps")
}

// P12.1: just as many steps as are left, and one more.
func TestSteps(t *testing.T) {
	w := wide(t)
	for _, arg := range []int{1, 2, 9, 1<<20 - 1, 1 << 20} {
		c := of(t, "step "+strconv.Itoa(arg)+", true")
		w.answers(t, c, 1, arg, come{v: truth(true), steps: arg})
		w.begins(t, c, 1, arg, []int{1, 1}, api.OK)
		w.answers(t, c, 1, arg-1, come{err: api.ErrFuel})
		w.begins(t, c, 1, arg-1, []int{1, 0}, api.ErrFuel)
		w.answers(t, c, 1, 1<<20, come{v: truth(true), steps: arg})
	}
	for _, arg := range []int{1<<20 + 1, 1 << 31, 1 << 32, math.MaxInt} {
		c := of(t, "step "+strconv.Itoa(arg)+", true")
		w.answers(t, c, 1, 1<<20, come{err: api.ErrFuel})
		w.begins(t, c, 1, 1<<20, []int{1, 0}, api.ErrFuel)
		// What is left may not be wrapped round.
		c = of(t, "step 5, step "+strconv.Itoa(arg)+", true")
		w.begins(t, c, 1, 1<<20, []int{1, 1, 0}, api.ErrFuel)
	}
	w.is(t, "step 1, step 2, step 3, true", 1, "true, 6 steps")
	w.is(t, "true, step 4", 1, "true, 4 steps")
	w.fails(t, "step 2, none, step 3, parent, step 4", 1, api.ErrNone, 5)
	w.is(t, "jump 1, jump 2, true", 1, "true, 0 steps")
}

// P12.1: what is asked of a node.
func TestOfNodes(t *testing.T) {
	w := wide(t)
	w.is(t, "self, prop name", 1, `"l", 0 steps`)
	w.is(t, "self, prop v", 4, `"-9223372036854775808", 0 steps`)
	w.is(t, "self, prop w", 2, `"", 0 steps`)
	w.is(t, "self, prop name", 3, `"", 0 steps`)
	w.is(t, "self, kids item", 1, "[2 4 5], 0 steps")
	w.is(t, "self, kids note", 1, "[3], 0 steps")
	w.is(t, "self, kids arg", 1, "[], 0 steps")
	w.is(t, "self, kids arg", 4, "[6 7], 0 steps")
	w.is(t, "self, kids kept", 9, "[], 0 steps")
	w.is(t, "self, ref to", 4, "@2, 0 steps")
	w.is(t, "self, ref to", 8, "@8, 0 steps")
	w.is(t, "self, ref up", 5, "@1, 0 steps")
	w.is(t, "self, ref away", 5, "@0, 0 steps")
	w.is(t, "self, ref to", 5, "@0, 0 steps")
	w.is(t, "self, ref to", 1, "@0, 0 steps")
	w.is(t, "self, ref to, ref to, ref v", 7, "@0, 0 steps")
	w.is(t, "self, parent", 7, "@4, 0 steps")
	w.is(t, "self, parent, parent", 7, "@1, 0 steps")
	w.is(t, "self, parent", 10, "@9, 0 steps")
	for _, root := range []int{1, 8, 9} {
		w.is(t, "self, parent", root, "@0, 0 steps")
	}
	w.is(t, "self, concept", 2, `"Num", 0 steps`)
	w.is(t, "self, concept", 9, `"?Kept", 0 steps`)
	w.is(t, "self, concept", 3, `"Other", 0 steps`)
	w.is(t, "self, id", 10, "10, 0 steps")
	w.is(t, "self, parent, id", 10, "9, 0 steps")
}

// P12.1: which concepts are below which, by the table; each visit is a step.
func TestConcepts(t *testing.T) {
	w := wide(t)
	w.is(t, "self, is Num", 2, "true, 0 steps")
	w.is(t, "self, is Item", 2, "true, 0 steps")
	w.is(t, "self, is Sum", 2, "false, 0 steps")
	w.is(t, "self, is Item", 1, "false, 0 steps")
	w.is(t, "self, is Item", 7, "true, 0 steps")
	w.is(t, "self, is Neg", 4, "false, 0 steps")
	// A concept that no language has is that one alone.
	w.is(t, "self, is Other", 3, "true, 0 steps")
	w.is(t, "self, is Item", 3, "false, 0 steps")
	w.is(t, "self, is Kept", 9, "false, 0 steps")
	w.is(t, "self, all Item", 1, "[2 4 6 7 5], 6 steps")
	w.is(t, "self, all Num", 1, "[2 6 5], 6 steps")
	w.is(t, "self, all Sum", 1, "[4 7], 6 steps")
	w.is(t, "self, all Other", 1, "[3], 6 steps")
	w.is(t, "self, all Nobody", 1, "[], 6 steps")
	// The node itself is not below itself, nor is another root.
	w.is(t, "self, all List", 1, "[], 6 steps")
	w.is(t, "self, all Sum", 4, "[7], 2 steps")
	w.is(t, "self, all Num", 9, "[10], 1 steps")
	w.is(t, "self, all Num", 2, "[], 0 steps")
	w.is(t, "step 3, self, all Item, size", 1, "5, 9 steps")
	w.answers(t, of(t, "step 3, self, all Item"), 1, 8, come{err: api.ErrFuel})
}

// P12.1, P12.2: a table that is nil, or that nobody made, is one of no languages.
func TestNoTable(t *testing.T) {
	none, f := meta.New(nil)
	if f.Err != api.OK {
		t.Fatal(f)
	}
	for _, table := range []*meta.Table{nil, new(meta.Table), none} {
		w := world{nil, table, wide(t).m}
		w.is(t, "self, is Num", 2, "true, 0 steps")
		w.is(t, "self, is Item", 2, "false, 0 steps")
		w.is(t, "self, all Num", 1, "[2 6 5], 6 steps")
		w.is(t, "self, all Item", 1, "[], 6 steps")
		w.is(t, "self, prop name", 1, `"l", 0 steps`)
		w.profile(t, "self, all Item, size", 1, 99, "1 1 1", api.OK)
		w.profile(t, "self, all Item, size", 1, 5, "1 1 0", api.ErrFuel)
	}
}

// P12.1: what is asked of lists, ints and texts.
func TestOfOthers(t *testing.T) {
	w := wide(t)
	w.is(t, "self, kids item, size", 1, "3, 0 steps")
	w.is(t, "self, kids w, size", 1, "0, 0 steps")
	w.is(t, "self, kids item, first", 1, "@2, 0 steps")
	w.is(t, "self, all Sum, first", 1, "@4, 6 steps")
	w.is(t, "self, kids w, first", 1, "@0, 0 steps")
	w.is(t, "int 0, show", 1, `"0", 0 steps`)
	w.is(t, "int -12, show", 1, `"-12", 0 steps`)
	w.is(t, "int -9223372036854775808, show", 1, `"-9223372036854775808", 0 steps`)
	w.is(t, "self, prop v, read", 4, "-9223372036854775808, 0 steps")
	w.is(t, `text "9223372036854775807", read`, 1, "9223372036854775807, 0 steps")
	for _, s := range []string{"", "a", "+1", "-0", "01", " 1", "1 ", "9223372036854775808", "-9223372036854775809", "1.0", "1e3", "0x1", "1_0"} {
		w.fails(t, "text "+strconv.Quote(s)+", read", 1, api.ErrTexts, 0)
	}
	w.fails(t, "self, prop w, read", 2, api.ErrTexts, 0)
}

// values is code that puts one value, of each Kind.
var values = map[string][]string{
	"int": {"int 1", "int 2"}, "text": {`text "1"`, `text "2"`}, "bool": {"true", "false"}, "node": {"self", "none"}, "list": {"self, kids item", "self, kids w"},
}

// P12.1: a value of another Kind than what is told, of each Op.
func TestKinds(t *testing.T) {
	w := wide(t)
	asking := map[string]string{
		"node": "prop a; kids a; ref a; parent; is Num; all Num; concept; id",
		"list": "size; first; any, next 99, true, take %; every, next 99, true, take %; only, next 99, true, take %; sum, next 99, int 1, take %",
		"int":  "show",
		"text": "read",
		"bool": "not; truth; and 99, true; or 99, true; unless 99, true, jump 99, true",
	}
	n := 0
	for kind, ops := range asking {
		for _, op := range strings.Split(ops, "; ") {
			for given, l := range values {
				for _, value := range l {
					s := completed(value, op)
					if c := w.asked(t, of(t, s), 1); (c.err == api.ErrKind) != (given != kind) || c.err != api.ErrKind && c.err != api.OK && c.err != api.ErrNone {
						t.Fatalf("%s: %s", s, c.show())
					}
					n++
				}
			}
		}
	}
	if n != 21*10 {
		t.Errorf("%d pieces of code", n)
	}
	// Which of a loop's elements comes to another Kind.
	for loop, kind := range map[string]string{"any": "bool", "every": "bool", "only": "bool", "sum": "int"} {
		for given, l := range values {
			for _, value := range l {
				s := completed("self, kids item", loop+", next 99, step 1, "+value+", take %")
				if c := w.asked(t, of(t, s), 1); (c.err == api.ErrKind) != (given != kind) || given != kind && c.steps != 2 {
					t.Fatalf("%s: %s", s, c.show())
				}
			}
		}
	}
}

// completed is code of a value, and what is done with it, the place 99 being its end or, of an unless, what stands behind the jump, and the place % that of the next.
func completed(value, op string) string {
	ahead := len(strings.Split(value, ", "))
	end := strconv.Itoa(ahead + len(strings.Split(op, ", ")))
	if strings.HasPrefix(op, "and") || strings.HasPrefix(op, "or") {
		return value + ", " + strings.ReplaceAll(op, "99", end)
	}
	op = strings.Replace(op, "unless 99", "unless "+strconv.Itoa(ahead+3), 1)
	return value + ", " + strings.NewReplacer("99", end, "%", strconv.Itoa(ahead+1)).Replace(op)
}

// P12.1: where a node is asked for: none, or one that isn't in the model.
func TestNone(t *testing.T) {
	w := wide(t)
	for _, op := range []string{"prop a", "kids a", "ref a", "parent", "is Num", "all Num", "concept", "id"} {
		w.fails(t, "none, "+op, 1, api.ErrNone, 0)
		w.fails(t, "self, "+op, 0, api.ErrNone, 0)
		w.fails(t, "self, parent, "+op, 1, api.ErrNone, 0)
		w.fails(t, "self, ref away, "+op, 5, api.ErrNone, 0)
		w.fails(t, "self, kids w, first, "+op, 5, api.ErrNone, 0)
		w.fails(t, "step 2, none, "+op+", step 3", 5, api.ErrNone, 2)
	}
	// Where none is asked for, none is as good as any.
	w.is(t, "none, self, ref away, eq", 5, "true, 0 steps")
	w.is(t, "self, none, eq", 0, "true, 0 steps")
}

// P12.1: of two values each pair of Kinds.
func TestPairs(t *testing.T) {
	w := wide(t)
	for word, kinds := range map[string]string{"add": "int text", "sub": "int", "mul": "int", "eq": "int text bool node", "ne": "int text bool node", "lt": "int text", "le": "int text"} {
		for a, l := range values {
			for b, r := range values {
				s := l[0] + ", " + r[1] + ", " + word
				if fit := a == b && is(a, kinds); fit {
					if c := w.asked(t, of(t, s), 1); c.err != api.OK {
						t.Fatalf("%s: %s", s, c.show())
					}
				} else {
					w.fails(t, s, 1, api.ErrKind, 0)
				}
			}
		}
		// What stands below the two stays.
		w.is(t, "text \"a\", int 1, int 1, eq, truth, unless 9, text \"b\", add, jump 10, truth", 1, `"ab", 0 steps`)
	}
}

// P12.1: which of two is less, the same, or greater; the second value is taken first.
func TestCompared(t *testing.T) {
	w := wide(t)
	rising := [][]string{
		{"int -9223372036854775808", "int -9223372036854775807", "int -10", "int -9", "int -1", "int 0", "int 1", "int 9", "int 10", "int 9223372036854775807"},
		{`text ""`, `text "\x00"`, `text "\x00\x00"`, `text "-1"`, `text "0"`, `text "10"`, `text "9"`, `text "A"`, `text "Z"`, `text "a"`, `text "aa"`, `text "b"`, `text "\x7f"`, `text "\x80"`, `text "\xc3\xa4"`, `text "\xff"`, `text "\xff\x00"`},
	}
	told := func(b bool) string { return come{v: truth(b)}.show() }
	for _, l := range rising {
		for i, a := range l {
			for k, b := range l {
				w.is(t, a+", "+b+", lt", 1, told(i < k))
				w.is(t, a+", "+b+", le", 1, told(i <= k))
				w.is(t, a+", "+b+", eq", 1, told(i == k))
				w.is(t, a+", "+b+", ne", 1, told(i != k))
			}
		}
	}
	for _, l := range [][]string{{"self", "none", "self, parent", "self, kids arg, first"}, {"true", "false"}} {
		for i, a := range l {
			for k, b := range l {
				w.is(t, a+", "+b+", eq", 4, told(i == k))
				w.is(t, a+", "+b+", ne", 4, told(i != k))
			}
		}
	}
	// Lists are not held against each other, be they the same, or of no nodes.
	for _, word := range []string{"eq", "ne", "lt", "le", "add"} {
		w.fails(t, "self, kids item, self, kids item, "+word, 1, api.ErrKind, 0)
		w.fails(t, "self, kids w, self, kids w, "+word, 1, api.ErrKind, 0)
	}
}

// P12.1: sums, differences and products at both ends of 64 bits.
func TestInts(t *testing.T) {
	w := wide(t)
	l := []int64{0, 1, -1, 2, -2, 3, -3, 7, 1 << 31, -1 << 31, 1<<31 - 1, 1 << 32, -1 << 32, 1 << 62, -1 << 62, 1<<62 - 1, 1<<62 + 1, 3037000499, 3037000500, -3037000499, -3037000500, math.MaxInt64, math.MinInt64, math.MaxInt64 - 1, math.MinInt64 + 1, math.MaxInt64 / 3, math.MinInt64 / 3, math.MaxInt64/3 + 1, math.MinInt64/3 - 1}
	count := map[api.Errno]int{}
	for _, op := range []int{code.OpAdd, code.OpSub, code.OpMul} {
		for _, a := range l {
			for _, b := range l {
				c := api.Code{List: []api.Ins{{Op: code.OpInt, Int: a}, {Op: code.OpInt, Int: b}, {Op: op}}}
				count[w.asked(t, c, 1).err]++
			}
		}
	}
	if count[api.OK] < 500 || count[api.ErrOver] < 500 {
		t.Errorf("%v", count)
	}
	w.is(t, "int 9223372036854775806, int 1, add", 1, "9223372036854775807, 0 steps")
	w.fails(t, "int 9223372036854775807, int 1, add", 1, api.ErrOver, 0)
	w.fails(t, "int -9223372036854775808, int 1, sub", 1, api.ErrOver, 0)
	w.fails(t, "int 0, int -9223372036854775808, sub", 1, api.ErrOver, 0)
	w.is(t, "int -1, int -9223372036854775808, sub", 1, "9223372036854775807, 0 steps")
	w.is(t, "int 4611686018427387904, int -2, mul", 1, "-9223372036854775808, 0 steps")
	w.fails(t, "int 4611686018427387904, int 2, mul", 1, api.ErrOver, 0)
	w.fails(t, "int -9223372036854775808, int -1, mul", 1, api.ErrOver, 0)
	w.fails(t, "int -1, int -9223372036854775808, mul", 1, api.ErrOver, 0)
	// What is over is over, whatever would be done with it.
	w.fails(t, "int 9223372036854775807, int 1, add, int 1, sub", 1, api.ErrOver, 0)
	w.fails(t, "int 0, int 9223372036854775807, int 1, add, mul", 1, api.ErrOver, 0)
}

// P12.1: texts one behind the other, of at most 4096 bytes.
func TestTexts(t *testing.T) {
	w := wide(t)
	w.is(t, `text "a", text "b", add`, 1, `"ab", 0 steps`)
	w.is(t, `text "", text "", add`, 1, `"", 0 steps`)
	w.is(t, `text "1", int 2, show, add`, 1, `"12", 0 steps`)
	long := func(n int) api.Ins { return api.Ins{Op: code.OpText, Text: strings.Repeat("t", n)} }
	for _, a := range []int{0, 1, 2047, 2048, 4095, 4096} {
		for _, b := range []int{0, 1, 2, 2048, 2049, 4095, 4096} {
			c := w.asked(t, api.Code{List: []api.Ins{long(a), long(b), {Op: code.OpAdd}}}, 1)
			if a+b > 4096 && c.err != api.ErrLong || a+b <= 4096 && len(c.v.Text) != a+b {
				t.Fatalf("%d, %d: %d", a, b, c.err)
			}
		}
	}
	// Bytes are counted, not letters; what is too long is so, whatever would be done with it.
	c := api.Code{List: []api.Ins{{Op: code.OpText, Text: strings.Repeat("ä", 2048)}, long(1), {Op: code.OpAdd}, {Op: code.OpSize}}}
	if got := w.asked(t, c, 1); got.err != api.ErrLong {
		t.Error(got.show())
	}
	c.List[0].Text = c.List[0].Text[2:]
	if got := w.asked(t, c, 1); got.err != api.ErrKind {
		t.Error(got.show())
	}
}

// P12.1: not, and, or, unless, jump, truth.
func TestWays(t *testing.T) {
	w := wide(t)
	w.is(t, "true, not", 1, "false, 0 steps")
	w.is(t, "false, not", 1, "true, 0 steps")
	w.is(t, "true, truth", 1, "true, 0 steps")
	w.is(t, "false, truth", 1, "false, 0 steps")
	w.is(t, "true, and 4, step 2, false, truth", 1, "false, 2 steps")
	for _, value := range []string{"true", "false", "int 1", "free", "none, id, show"} {
		end := strconv.Itoa(3 + len(strings.Split(value, ", ")))
		w.is(t, "false, and "+end+", step 1, "+value, 1, "false, 0 steps")
		w.is(t, "true, or "+end+", step 1, "+value, 1, "true, 0 steps")
	}
	// Without a truth behind it, what comes of the second one may be of any Kind.
	w.is(t, "true, and 4, step 1, self", 1, "@1, 1 steps")
	w.is(t, "false, or 4, step 1, int 5", 1, "5, 1 steps")
	w.is(t, "true, and 4, step 1, false", 1, "false, 1 steps")
	w.fails(t, "true, and 4, step 1, int 1, truth", 1, api.ErrKind, 1)
	w.is(t, "true, unless 5, step 1, int 1, jump 7, step 2, int 2", 1, "1, 1 steps")
	w.is(t, "false, unless 5, step 1, int 1, jump 7, step 2, int 2", 1, "2, 2 steps")
	w.is(t, "int 7, true, unless 4, step 1, step 2", 1, "7, 3 steps")
	w.is(t, "int 7, false, unless 4, step 1, step 2", 1, "7, 2 steps")
	// To the place behind their own.
	w.is(t, "int 7, true, unless 3", 1, "7, 0 steps")
	w.is(t, "self, jump 2, jump 3", 1, "@1, 0 steps")
	// What is led to from several places.
	w.is(t, "true, and 6, false, or 6, true, not", 1, "false, 0 steps")
	w.is(t, "true, and 5, false, or 5, true, not", 1, "false, 0 steps")
	w.is(t, "false, and 5, false, or 5, true, not", 1, "true, 0 steps")
	w.is(t, "true, and 5, true, or 5, false, not", 1, "false, 0 steps")
}
