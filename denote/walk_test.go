package denote_test

import (
	"slices"
	"testing"

	"topiary/api"
	"topiary/denote"
	"topiary/expr"
)

// thrown is a world with a model thrown by the dice.
func (d dice) thrown(t *testing.T) world {
	t.Helper()
	return newWorld(t, d.model(d.IntN(24)))
}

// askedTree asks all of a tree, whether it passes a limit or not; of one that does it comes to nothing.
func (w world) askedTree(t *testing.T, x tree, self int) come {
	t.Helper()
	if x.tooGreat() {
		w.isRefused(t, x.expr(), self, 99, api.ErrFull)
		return come{err: api.ErrFull}
	}
	return w.asked(t, x.expr(), self)
}

// count tells how often each thing came.
type count map[int]int

// atLeast asks that each of them came so often.
func (c count) atLeast(t *testing.T, n int, of ...int) {
	t.Helper()
	for _, k := range of {
		if c[k] < n {
			t.Errorf("%d came %d times: %v", k, c[k], c)
		}
	}
}

// P10.1, P10.2: expressions that have a kind, and in which nothing is free, at any node of any model, with each fuel.
func TestThrownOfAKind(t *testing.T) {
	kinds, values, errs := count{}, count{}, count{}
	for seed := range uint64(6000) {
		d := newDice(seed)
		w := d.thrown(t)
		x := d.of(1+d.IntN(5), 2+d.IntN(30), 2+d.IntN(8), nil)
		c := w.askedTree(t, x, d.nodeOf(w.m))
		errs[int(c.err)]++
		values[c.v.Kind]++
		if c.err == api.OK {
			for _, n := range x.expr().Nodes {
				kinds[n.Kind]++
			}
		}
		if slices.Contains([]api.Errno{api.ErrKind, api.ErrVar}, c.err) {
			t.Fatalf("%s: %s", text(x.expr()), c.show())
		}
	}
	for kind := api.EInt; kind <= api.ESum; kind++ {
		kinds.atLeast(t, 50, kind)
	}
	values.atLeast(t, 200, api.VInt, api.VText, api.VBool, api.VNode, api.VList)
	errs.atLeast(t, 20, int(api.ErrOver), int(api.ErrTexts), int(api.ErrNone))
	errs.atLeast(t, 5, int(api.ErrLong))
}

// P10.1, P10.2: expressions with something changed, and of any nodes.
func TestThrownOfNone(t *testing.T) {
	errs, steps := count{}, count{}
	for seed := range uint64(8000) {
		d := newDice(seed + 10000)
		w := d.thrown(t)
		var x tree
		if d.IntN(4) == 0 {
			x = d.any(1+d.IntN(16), 1+d.IntN(6))
		} else {
			x = d.changed(d.of(1+d.IntN(5), 4+d.IntN(24), 3+d.IntN(6), nil))
		}
		c := w.askedTree(t, x, d.nodeOf(w.m))
		errs[int(c.err)]++
		if c.err != api.OK {
			steps[min(c.steps, 10)]++
		}
	}
	errs.atLeast(t, 300, int(api.OK), int(api.ErrKind), int(api.ErrVar), int(api.ErrNone))
	steps.atLeast(t, 100, 1, 2, 3, 4, 5, 6, 7, 8, 9, 10)
}

// P10.1, P10.2: loops within loops, that take many steps.
func TestThrownLoops(t *testing.T) {
	steps := count{}
	for seed := range uint64(300) {
		d := newDice(seed + 20000)
		w := newWorld(t, d.model(12+d.IntN(40)))
		self := d.nodeOf(w.m)
		c := w.asked(t, d.looped().expr(), self)
		for range 10 {
			if c.err != api.OK {
				c = w.asked(t, d.looped().expr(), self)
			}
		}
		for limit := 10; limit <= 10000; limit *= 10 {
			if c.steps >= limit {
				steps[limit]++
			}
		}
	}
	steps.atLeast(t, 20, 10, 100, 1000)
}

// looped is a tree of three loops within one another.
func (d dice) looped() tree {
	kind := pick(d, api.ESum, api.ESum, api.EAny, api.EEvery)
	body := api.VBool
	if kind == api.ESum {
		body = api.VInt
	}
	x := d.of(body, 8, 4, []string{"x", "y", "item"})
	for i, name := range []string{"item", "x", "y"} {
		over := tree{kind: api.ESelf}
		if i == 0 && d.IntN(3) == 0 {
			over = tree{kind: api.EVar, text: "x"}
		}
		x = tree{kind: kind, text: name, kids: []tree{{kind: api.EAll, text: "Item", kids: []tree{over}}, x}}
	}
	return x
}

// alike asks that two expressions come to the same value or error, the second one by so many steps more.
func (w world) alike(t *testing.T, x, y tree, self, more int) {
	t.Helper()
	a, b := w.askedTree(t, x, self), w.askedTree(t, y, self)
	if x.tooGreat() || y.tooGreat() || a.err == api.ErrFuel || b.err == api.ErrFuel {
		return
	}
	if !sameValue(a.v, b.v) || a.err != b.err || b.steps != a.steps+more {
		t.Fatalf("%s: %s; %s: %s", text(x.expr()), a.show(), text(y.expr()), b.show())
	}
}

// P10.3: and, or, if.
func TestChoices(t *testing.T) {
	yes, no := tree{kind: api.ETrue}, tree{kind: api.EFalse}
	for seed := range uint64(2000) {
		d := newDice(seed + 30000)
		w := d.thrown(t)
		self := d.nodeOf(w.m)
		a, e := d.changed(d.of(1+d.IntN(5), 1+d.IntN(12), 6, nil)), d.changed(d.of(1+d.IntN(5), 1+d.IntN(12), 6, nil))
		w.alike(t, no, tree{kind: api.EAnd, kids: []tree{no, e}}, self, 1)
		w.alike(t, yes, tree{kind: api.EOr, kids: []tree{yes, e}}, self, 1)
		w.alike(t, a, tree{kind: api.EIf, kids: []tree{yes, a, e}}, self, 2)
		w.alike(t, a, tree{kind: api.EIf, kids: []tree{no, e, a}}, self, 2)
	}
}

// P10.3: what stands behind the first true of an any, or the first false of an every.
func TestBehindTheFirst(t *testing.T) {
	yes, no, x := tree{kind: api.ETrue}, tree{kind: api.EFalse}, tree{kind: api.EVar, text: "x"}
	early := 0
	for seed := range uint64(3000) {
		d := newDice(seed + 40000)
		w := newWorld(t, d.model(6+d.IntN(14)))
		self := d.nodeOf(w.m)
		l := pick(d, d.of(api.VList, 2+d.IntN(4), 4, nil), tree{kind: api.EAll, text: "Item", kids: []tree{{kind: api.ESelf}}})
		c := w.askedTree(t, l, self)
		if len(c.v.List) == 0 {
			continue
		}
		at := d.IntN(len(c.v.List))
		is := tree{kind: api.EEq, kids: []tree{{kind: api.EID, kids: []tree{x}}, {kind: api.EInt, num: int64(c.v.List[at])}}}
		for _, kinds := range []struct {
			loop        int
			first, last tree
		}{{api.EAny, yes, no}, {api.EEvery, no, yes}} {
			// At the elements ahead it comes to the last bool, at that one to the first one, behind it to e.
			body := func(e tree) tree {
				among := oneOf(c.v.List[:at])
				return tree{kind: api.EIf, kids: []tree{is, kinds.first, {kind: api.EIf, kids: []tree{among, kinds.last, e}}}}
			}
			want := come{v: truth(kinds.loop == api.EAny)}
			for range 3 {
				e := d.changed(d.of(1+d.IntN(5), 1+d.IntN(8), 4, []string{"x"}))
				whole := tree{kind: kinds.loop, text: "x", kids: []tree{l, body(e)}}
				got := w.askedTree(t, whole, self)
				if whole.tooGreat() {
					continue
				}
				if want.steps == 0 {
					want.steps = got.steps
				}
				if !sameValue(got.v, want.v) || got.steps != want.steps || got.err != api.OK {
					t.Fatalf("%s: %s; not %s", text(whole.expr()), got.show(), want.show())
				}
			}
		}
		if at > 0 && at < len(c.v.List)-1 {
			early++
		}
	}
	if early < 200 {
		t.Errorf("%d times in the midst", early)
	}
}

// oneOf is an expression that tells whether x is one of these nodes.
func oneOf(ids []int) tree {
	out := tree{kind: api.EFalse}
	for _, id := range ids {
		is := tree{kind: api.EEq, kids: []tree{{kind: api.EID, kids: []tree{{kind: api.EVar, text: "x"}}}, {kind: api.EInt, num: int64(id)}}}
		out = tree{kind: api.EOr, kids: []tree{is, out}}
	}
	return out
}

// P10.3: an any, and a not of an every of a not.
func TestAnyAndEvery(t *testing.T) {
	errs := count{}
	for seed := range uint64(4000) {
		d := newDice(seed + 50000)
		w := d.thrown(t)
		self := d.nodeOf(w.m)
		name := pick(d, "x", "y")
		l := d.of(api.VList, 2+d.IntN(6), 5, nil)
		c := d.of(api.VBool, 1+d.IntN(12), 5, []string{name})
		if d.IntN(3) == 0 {
			c = d.changed(c)
		}
		if d.IntN(5) == 0 {
			l = d.changed(l)
		}
		if (tree{kids: []tree{{kids: []tree{l, {kids: []tree{c}}}}}}).tooGreat() {
			continue
		}
		some := tree{kind: api.EAny, text: name, kids: []tree{l, c}}.expr()
		notEvery := tree{kind: api.ENot, kids: []tree{{kind: api.EEvery, text: name, kids: []tree{l, {kind: api.ENot, kids: []tree{c}}}}}}.expr()
		v1, _, e1 := denote.Of(w.table, w.m, some, self, api.MaxFuel)
		v2, _, e2 := denote.Of(w.table, w.m, notEvery, self, api.MaxFuel)
		if e1 == api.ErrFuel || e2 == api.ErrFuel {
			continue
		}
		if !sameValue(v1, v2) || e1 != e2 {
			t.Fatalf("%s: %s; %s: %s", text(some), come{v: v1, err: e1}.show(), text(notEvery), come{v: v2, err: e2}.show())
		}
		errs[int(e1)]++
		if v1.Bool {
			errs[-1]++
		}
	}
	errs.atLeast(t, 20, -1, int(api.OK), int(api.ErrKind), int(api.ErrVar), int(api.ErrNone), int(api.ErrTexts))
}

// P10.1: what a part comes to by itself it comes to in the whole: a bool, asked ahead of all else.
func TestParts(t *testing.T) {
	for seed := range uint64(1000) {
		d := newDice(seed + 60000)
		w := d.thrown(t)
		self := d.nodeOf(w.m)
		x := d.of(1+d.IntN(5), 2+d.IntN(20), 6, nil)
		if x.tooGreat() {
			continue
		}
		e := x.expr()
		whole := w.asked(t, e, self)
		// The first kid of a node is evaluated first: what fails there fails in the whole.
		at := 0
		for len(e.Nodes[at].Kids) > 0 {
			at = e.Nodes[at].Kids[0]
			part, err := expr.Part(e, at)
			if err != api.OK {
				t.Fatal(err)
			}
			if c := w.asked(t, part, self); c.err != api.OK && (whole.err != c.err || c.err != api.ErrFuel && whole.steps <= c.steps) {
				t.Fatalf("%s: %s; %s: %s", text(part), c.show(), text(e), whole.show())
			}
		}
	}
}
