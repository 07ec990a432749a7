package code_test

import (
	"slices"
	"strings"
	"testing"

	"topiary/api"
	"topiary/code"
)

// count tells how often each thing came.
type count[K comparable] map[K]int

// atLeast asks that each of them came so often.
func (c count[K]) atLeast(t *testing.T, n int, of ...K) {
	t.Helper()
	for _, k := range of {
		if c[k] < n {
			t.Errorf("%v came %d times: %v", k, c[k], c)
		}
	}
}

// rules are those of which a fault tells.
var rules = []string{"unled", "told", "takes", "place", "load", "begin", "next", "take", "height", "loops", "end"}

// P11.1, P11.2, P11.5, P11.6: expressions of any nodes, small ones and great ones.
func TestThrown(t *testing.T) {
	kinds, ops := count[int]{}, count[int]{}
	deep := count[int]{}
	for seed := range uint64(8000) {
		d := newDice(seed)
		x := d.tree(1+d.IntN(30), 1+d.IntN(9))
		if seed%20 == 0 {
			x = d.tree(pick(d, 200, 300, 400, 600), 16+d.IntN(18))
		}
		if askedTree(t, x) != api.OK {
			kinds[0]++
			continue
		}
		for _, n := range x.expr().Nodes {
			kinds[n.Kind]++
		}
		c, _ := code.Compile(x.expr())
		for _, n := range c.List {
			ops[n.Op]++
			if n.Op == code.OpLoad {
				deep[min(n.Arg, 4)]++
			}
		}
	}
	for kind := api.EInt; kind <= api.ESum; kind++ {
		kinds.atLeast(t, 500, kind)
	}
	kinds.atLeast(t, 20, 0)
	for op := code.OpStep; op <= code.OpTake; op++ {
		ops.atLeast(t, 500, op)
	}
	deep.atLeast(t, 50, 0, 1, 2, 3)
}

// P11.1: every expression of few nodes.
func TestAllShortExpressions(t *testing.T) {
	n := 0
	for _, x := range allTrees(5) {
		askedTree(t, x)
		n++
	}
	if n < 5000 {
		t.Errorf("%d expressions", n)
	}
}

// allTrees are all trees of at most so many nodes, with hardly any texts.
func allTrees(size int) []tree {
	var out []tree
	if size < 1 {
		return nil
	}
	for _, x := range []tree{{kind: api.EInt, num: 1}, {kind: api.ESelf}, {kind: api.EVar, text: "x"}, {kind: api.EVar, text: "y"}} {
		out = append(out, x)
	}
	for _, kind := range []int{api.EProp, api.ENot, api.EAdd, api.EAnd, api.EOr, api.EIf, api.EAny, api.ESum} {
		x := tree{kind: kind}
		if isNamed(kind) {
			x.text = "x"
		}
		for _, kids := range allRows(kidsOf(kind), size-1) {
			x.kids = kids
			out = append(out, x)
		}
	}
	return out
}

// allRows are all rows of so many trees, of at most so many nodes together.
func allRows(n, size int) [][]tree {
	if n == 0 {
		return [][]tree{nil}
	}
	var out [][]tree
	for _, x := range allTrees(size - n + 1) {
		for _, rest := range allRows(n-1, size-x.size()) {
			out = append(out, append([]tree{x}, rest...))
		}
	}
	return out
}

// P11.7: another name in the place of a variable's, everywhere.
func TestRenamed(t *testing.T) {
	variables := 0
	for seed := range uint64(4000) {
		d := newDice(seed + 10000)
		x := d.tree(2+d.IntN(40), 2+d.IntN(10))
		c, err := code.Compile(x.expr())
		if err != api.OK {
			t.Fatalf("Compile(%s): %d", told(x.expr()), err)
		}
		for _, name := range x.variables() {
			for _, to := range []string{"fresh", "F", strings.Repeat("f", 32)} {
				other, err := code.Compile(x.renamed(name, to).expr())
				if err != api.OK || !slices.Equal(other.List, c.List) {
					t.Fatalf("Compile(%s): %v; with %s as %s: %v, %d", told(x.expr()), c, name, to, other, err)
				}
			}
			variables++
		}
	}
	if variables < 4000 {
		t.Errorf("%d variables", variables)
	}
}

// P11.7: what has no variables and no loops is read back out of its code.
func TestStraight(t *testing.T) {
	seen := map[string]string{}
	size := 0
	asked := func(x tree) {
		t.Helper()
		c, err := code.Compile(x.expr())
		if err != api.OK {
			t.Fatalf("Compile(%s): %d", told(x.expr()), err)
		}
		s, _ := code.Print(c)
		if e, ok := seen[s]; ok && e != told(x.expr()) {
			t.Fatalf("%s and %s have the code\n%s", told(x.expr()), e, s)
		}
		seen[s] = told(x.expr())
		r := backward{list: c.List}
		back := r.node()
		if told(back.expr()) != told(x.expr()) || r.at != len(c.List) {
			t.Fatalf("the code of %s is read back as %s", told(x.expr()), told(back.expr()))
		}
		size += x.size()
	}
	for seed := range uint64(6000) {
		d := newDice(seed + 20000)
		asked(d.straight(1+d.IntN(40), 1+d.IntN(12)))
	}
	for _, x := range allTrees(4) {
		asked(x.straightened())
	}
	if len(seen) < 4000 || size < 40000 {
		t.Errorf("%d expressions, %d nodes", len(seen), size)
	}
}

// A backward reads an expression without variables and loops out of its code: the first step tells how many nodes are begun there.
type backward struct {
	list []api.Ins
	at   int
}

func (r *backward) next() api.Ins {
	r.at++
	return r.list[r.at-1]
}

// node reads a node's code.
func (r *backward) node() tree {
	begun := r.next().Arg
	n := r.next()
	x := tree{kind: kindOf(n.Op), text: n.Text, num: n.Int}
	for begun > 1 {
		x = r.over(x)
		begun--
	}
	return x
}

// over reads what is above a node that is the first kid of another one.
func (r *backward) over(first tree) tree {
	n := r.next()
	x := tree{kind: kindOf(n.Op), text: n.Text, kids: []tree{first}}
	switch n.Op {
	case code.OpAnd, code.OpOr:
		x.kids = append(x.kids, r.node())
		r.next()
		return x
	case code.OpUnless:
		x.kids = append(x.kids, r.node())
		r.next()
		x.kids = append(x.kids, r.node())
		return x
	case code.OpStep:
		// Another node stands between: the second kid.
		r.at--
		x = tree{kids: []tree{first, r.node()}}
		x.kind = kindOf(r.next().Op)
	}
	return x
}

// kindOf is the Kind of which an Op is.
func kindOf(op int) int {
	for kind := api.EInt; kind <= api.ESum; kind++ {
		if word, _ := plainOf(kind); word != "" && word == rowOf(op).word {
			return kind
		}
	}
	return api.EIf
}

// P11.2, P11.3, P11.5: code with something changed.
func TestChanged(t *testing.T) {
	came := count[string]{}
	for seed := range uint64(40000) {
		d := newDice(seed + 30000)
		x := d.tree(2+d.IntN(20), 2+d.IntN(7))
		l := d.changed(mustCompile(t, x))
		for range d.IntN(3) {
			l = d.changed(l)
		}
		came[asAgain(t, l).rule]++
	}
	came.atLeast(t, 100, rules...)
	came.atLeast(t, 3000, "")
}

func mustCompile(t *testing.T, x tree) []api.Ins {
	t.Helper()
	c, err := code.Compile(x.expr())
	if err != api.OK {
		t.Fatalf("Compile(%s): %d", told(x.expr()), err)
	}
	return c.List
}

// P11.2, P11.5: code that is right, and no expression's.
func TestGrown(t *testing.T) {
	ops, came := count[int]{}, count[string]{}
	unlike := 0
	for seed := range uint64(1500) {
		d := newDice(seed + 100000)
		was := mustCompile(t, d.tree(4+d.IntN(20), 3+d.IntN(6)))
		l := d.grown(was, 60)
		isCode(t, l)
		for _, n := range l {
			ops[n.Op]++
		}
		if !slices.Equal(was, l) {
			unlike++
		}
		for range 4 {
			came[asAgain(t, d.changed(l)).rule]++
		}
	}
	for op := code.OpStep; op <= code.OpTake; op++ {
		ops.atLeast(t, 100, op)
	}
	came.atLeast(t, 20, rules...)
	if unlike < 1400 {
		t.Errorf("%d pieces of code", unlike)
	}
}

// P11.2: all code of few instructions, of those on which most hangs. What is wrong ahead of all that may still come is not gone on with.
func TestAllShortCode(t *testing.T) {
	came := count[string]{}
	for whole := range 7 {
		var pool []api.Ins
		for _, word := range []string{"true", "add", "not", "any", "load 0", "load 1"} {
			pool = append(pool, list(t, word)...)
		}
		for _, word := range []string{"and", "unless", "jump", "next", "take"} {
			for place := range whole + 2 {
				pool = append(pool, api.Ins{Op: opNamed(word), Arg: place})
			}
		}
		// What stands for what is still to come is a next, as that may stand behind an any, but none that may be.
		unknown := api.Ins{Op: code.OpNext, Arg: -1}
		var grow func(l []api.Ins)
		grow = func(l []api.Ins) {
			if len(l) == whole {
				came[asAgain(t, l).rule]++
				return
			}
			for _, n := range pool {
				longer := append(slices.Clone(l), n)
				padded := append(slices.Clone(longer), slices.Repeat([]api.Ins{unknown}, whole-len(longer))...)
				if asAgain(t, padded).at >= len(longer) || len(longer) == whole {
					grow(longer)
				}
			}
		}
		grow(nil)
	}
	for _, rule := range rules {
		if rule != "told" && rule != "full" {
			came.atLeast(t, 100, rule)
		}
	}
	came.atLeast(t, 1000, "")
}

// P11.4, P11.5: texts with a byte more, a byte less, another byte.
func TestBytes(t *testing.T) {
	came := count[api.Errno]{}
	for _, whole := range []string{
		lines(`step 3, self, kids a, any, next 12, step 10, load 0, prop c, step 1, text "a\n\x00\"", eq, take 4`),
		lines(`step 1, true, unless 7, step 1, int -20, show, jump 11, step 2, text "\\", read, show`),
		lines(`step 3, none, all A, sum, next 12, self, load 0, int 0, add, and 10, id, take 4`),
	} {
		for i := range len(whole) + 1 {
			ahead, behind := whole[:i], whole[i:]
			came[isParsed(t, ahead)]++
			came[isParsed(t, behind)]++
			for _, b := range []byte("\n \t\r\"\\-+01259xnatezZ_?.\x00\x7f\xff") {
				came[isParsed(t, ahead+string([]byte{b})+behind)]++
				if behind != "" {
					came[isParsed(t, ahead+string([]byte{b})+behind[1:])]++
				}
			}
			if behind != "" {
				came[isParsed(t, ahead+behind[1:])]++
				came[isParsed(t, ahead+behind[:1]+behind)]++
			}
		}
	}
	came.atLeast(t, 200, api.OK)
	came.atLeast(t, 5000, api.ErrCode)
}

// P11.4: lines thrown one behind the other, and lines exchanged among pieces of code.
func TestThrownLines(t *testing.T) {
	came, behind := count[api.Errno]{}, 0
	for seed := range uint64(20000) {
		d := newDice(seed + 200000)
		text := textOf(mustCompile(t, d.tree(1+d.IntN(8), 1+d.IntN(5))))
		rows := strings.SplitAfter(text, "\n")
		at := d.IntN(len(rows))
		switch d.IntN(5) {
		case 0:
			rows[at] = ""
		case 1:
			rows[at] = lineOf(d.ins(len(rows))) + "\n"
		case 2:
			rows[at] = strings.TrimSuffix(rows[at], "\n")
		case 3:
			rows[at] += pick(d, "\n", " ", "x\n", "self\n", "step 0\n", "text \"\n", "jump 99\n", "prop ?a\n")
		case 4:
			other := d.IntN(len(rows))
			rows[at], rows[other] = rows[other], rows[at]
		}
		text = strings.Join(rows, "")
		err := isParsed(t, text)
		came[err]++
		if _, at, _ := code.Parse(text); at > 0 {
			behind++
		}
	}
	came.atLeast(t, 1000, api.OK, api.ErrCode)
	if behind < 3000 {
		t.Errorf("%d times behind the first line", behind)
	}
}
