package machine_test

import (
	"slices"
	"testing"

	"topiary/api"
	"topiary/code"
	"topiary/denote"
	"topiary/expr"
	"topiary/machine"
)

// thrown is a world with a model thrown by the dice.
func (d dice) thrown(t *testing.T) world {
	t.Helper()
	return newWorld(t, d.model(d.IntN(24)))
}

// count tells how often each thing came.
type count map[int]int

// atLeast asks that each of them came so often.
func (c count) atLeast(t *testing.T, n int, of ...int) {
	t.Helper()
	for _, k := range of {
		if c[k] < n {
			t.Errorf("%d came %d times: %v", k, c[k], c)
		}
	}
}

// means asks that the code of an expression comes to what the expression means, with much fuel and with little; and answers what that is.
func (w world) means(t *testing.T, x tree, self int) come {
	t.Helper()
	e := x.expr()
	c, err := code.Compile(e)
	if err != api.OK {
		return come{err: err}
	}
	s, _ := expr.Print(e)
	alike := func(fuel int) come {
		v, steps, err := denote.Of(w.table, w.m, e, self, fuel)
		got, taken, came := machine.Run(w.table, w.m, c, self, fuel)
		if !sameValue(v, got) || steps != taken || err != came {
			t.Fatalf("%.300s at %d with %d: %s; its code: %s", s, self, fuel, come{v: v, err: err, steps: steps}.show(), come{v: got, err: came, steps: taken}.show())
		}
		if l, told := machine.Profile(w.table, w.m, c, self, fuel); told != err || len(l) != len(c.List) {
			t.Fatalf("Profile of %.300s at %d with %d: %v, %d", s, self, fuel, l, told)
		}
		return come{v: v, err: err, steps: steps}
	}
	all := alike(api.MaxFuel)
	most := 60
	if all.err == api.OK {
		most = min(all.steps+3, 400)
		for _, fuel := range []int{all.steps / 2, all.steps - 1, all.steps, all.steps + 1} {
			alike(max(fuel, 0))
		}
	}
	for fuel := range most {
		alike(fuel)
	}
	return all
}

// P12.3: expressions that have a kind, and in which nothing is free.
func TestMeansOfAKind(t *testing.T) {
	kinds, values, errs := count{}, count{}, count{}
	for seed := range uint64(5000) {
		d := newDice(seed)
		w := d.thrown(t)
		x := d.of(1+d.IntN(5), 2+d.IntN(30), 2+d.IntN(8), nil)
		c := w.means(t, x, d.nodeOf(w.m))
		errs[int(c.err)]++
		values[c.v.Kind]++
		if c.err == api.OK {
			for _, n := range x.expr().Nodes {
				kinds[n.Kind]++
			}
		}
	}
	for kind := api.EInt; kind <= api.ESum; kind++ {
		kinds.atLeast(t, 50, kind)
	}
	values.atLeast(t, 200, api.VInt, api.VText, api.VBool, api.VNode, api.VList)
	errs.atLeast(t, 20, int(api.ErrOver), int(api.ErrTexts), int(api.ErrNone))
	errs.atLeast(t, 5, int(api.ErrLong))
}

// P12.3: expressions with something changed, and of any nodes.
func TestMeansOfNone(t *testing.T) {
	errs := count{}
	for seed := range uint64(6000) {
		d := newDice(seed + 10000)
		w := d.thrown(t)
		var x tree
		if d.IntN(4) == 0 {
			x = d.any(1+d.IntN(16), 1+d.IntN(6))
		} else {
			x = d.changed(d.of(1+d.IntN(5), 4+d.IntN(24), 3+d.IntN(6), nil))
		}
		errs[int(w.means(t, x, d.nodeOf(w.m)).err)]++
	}
	errs.atLeast(t, 200, int(api.OK), int(api.ErrKind), int(api.ErrVar), int(api.ErrNone))
	errs.atLeast(t, 5, int(api.ErrOver), int(api.ErrTexts))
}

// looped is a tree of three loops within one another.
func (d dice) looped() tree {
	kind := pick(d, api.ESum, api.ESum, api.EAny, api.EEvery)
	body := api.VBool
	if kind == api.ESum {
		body = api.VInt
	}
	x := d.of(body, 8, 4, []string{"x", "y", "item"})
	for i, name := range []string{"item", "x", "y"} {
		over := tree{kind: api.ESelf}
		if i == 0 && d.IntN(3) == 0 {
			over = tree{kind: api.EVar, text: "x"}
		}
		x = tree{kind: kind, text: name, kids: []tree{{kind: api.EAll, text: "Item", kids: []tree{over}}, x}}
	}
	return x
}

// P12.1, P12.2, P12.3: loops within loops, that take many steps.
func TestManyTurns(t *testing.T) {
	steps := count{}
	for seed := range uint64(200) {
		d := newDice(seed + 20000)
		w := newWorld(t, d.model(12+d.IntN(40)))
		x, self := d.looped(), d.nodeOf(w.m)
		c := w.means(t, x, self)
		for range 10 {
			if c.err != api.OK {
				x = d.looped()
				c = w.means(t, x, self)
			}
		}
		if c.steps < 2000 {
			w.asked(t, api.Code{List: compiled(t, x)}, self)
		}
		for limit := 10; limit <= 10000; limit *= 10 {
			if c.steps >= limit {
				steps[limit]++
			}
		}
	}
	steps.atLeast(t, 20, 10, 100, 1000)
}

// P12.1, P12.2, P12.4: the code of expressions.
func TestCompiled(t *testing.T) {
	errs := count{}
	for seed := range uint64(3000) {
		d := newDice(seed + 30000)
		w := d.thrown(t)
		x := d.of(1+d.IntN(5), 2+d.IntN(30), 2+d.IntN(8), nil)
		if d.IntN(2) == 0 {
			x = d.changed(x)
		}
		if !x.tooGreat() {
			errs[int(w.asked(t, api.Code{List: compiled(t, x)}, d.nodeOf(w.m)).err)]++
		}
	}
	errs.atLeast(t, 100, int(api.OK), int(api.ErrKind), int(api.ErrVar), int(api.ErrNone))
	errs.atLeast(t, 5, int(api.ErrOver), int(api.ErrTexts))
}

// P12.1, P12.2, P12.4, P12.5: code that is right, and no expression's.
func TestGrown(t *testing.T) {
	ops, errs, unlike := count{}, count{}, 0
	for seed := range uint64(10000) {
		d := newDice(seed + 40000)
		w := d.thrown(t)
		x := d.of(1+d.IntN(5), 2+d.IntN(24), 2+d.IntN(7), nil)
		for x.tooGreat() {
			x = d.of(1+d.IntN(5), 2+d.IntN(24), 2+d.IntN(7), nil)
		}
		was := compiled(t, x)
		l := d.grown(was, 1+d.IntN(12))
		self := d.nodeOf(w.m)
		c := w.asked(t, api.Code{List: l}, self)
		errs[int(c.err)]++
		if c.err == api.OK {
			w.addsUp(t, l, self, c)
			for _, m := range c.moments {
				ops[l[m.place].Op]++
			}
			if !slices.Equal(l, was) {
				unlike++
			}
		}
	}
	for op := code.OpStep; op <= code.OpTake; op++ {
		if op != code.OpFree {
			ops.atLeast(t, 80, op)
		}
	}
	errs.atLeast(t, 100, int(api.OK), int(api.ErrKind), int(api.ErrVar), int(api.ErrNone))
	errs.atLeast(t, 10, int(api.ErrOver), int(api.ErrTexts), int(api.ErrLong))
	if unlike < 2000 {
		t.Errorf("%d pieces of code", unlike)
	}
}

// addsUp asks what P12.5 tells of code that came to a value.
func (w world) addsUp(t *testing.T, l []api.Ins, self int, c come) {
	t.Helper()
	begun, err := machine.Profile(w.table, w.m, api.Code{List: l}, self, c.steps)
	if err != api.OK || len(begun) != len(l) || begun[0] != 1 {
		t.Fatalf("Profile(%s) at %d: %v, %d", row(api.Code{List: l}), self, begun, err)
	}
	steps, visits := 0, false
	for at, n := range l {
		switch n.Op {
		case code.OpStep:
			steps += n.Arg * begun[at]
		case code.OpTake:
			// At each element of a loop one take is begun, and one step of its next was.
			steps += begun[at]
			if begun[at] > begun[n.Arg] {
				t.Fatalf("%s: %v", row(api.Code{List: l}), begun)
			}
		case code.OpAll:
			visits = visits || begun[at] > 0
		}
	}
	if steps > c.steps || steps != c.steps && !visits {
		t.Fatalf("%s: %v, %d steps; not %d", row(api.Code{List: l}), begun, c.steps, steps)
	}
}

// P12.5: the steps of many runs, the visits of an all being those of all nodes below.
func TestStepsOfVisits(t *testing.T) {
	visited := 0
	for seed := range uint64(2000) {
		d := newDice(seed + 60000)
		w := d.thrown(t)
		self := d.nodeOf(w.m)
		s := slow{m: w.m}
		over, ok := s.node(self)
		if !ok {
			continue
		}
		below := len(s.under(over))
		x := tree{kind: api.ESum, text: "x", kids: []tree{{kind: api.EKids, text: "item", kids: []tree{{kind: api.ESelf}}}, {kind: api.ESize, kids: []tree{{kind: api.EAll, text: "Item", kids: []tree{{kind: api.ESelf}}}}}}}
		l := compiled(t, x)
		_, steps, err := machine.Run(w.table, w.m, api.Code{List: l}, self, api.MaxFuel)
		begun, _ := machine.Profile(w.table, w.m, api.Code{List: l}, self, api.MaxFuel)
		want := 0
		for at, n := range l {
			switch n.Op {
			case code.OpStep:
				want += n.Arg * begun[at]
			case code.OpNext:
				want += begun[at] - 1
			case code.OpAll:
				want += below * begun[at]
				visited += below * begun[at]
			}
		}
		if err != api.OK || steps != want {
			t.Fatalf("%d steps, not %d; %d", steps, want, err)
		}
	}
	if visited < 3000 {
		t.Errorf("%d visits", visited)
	}
}

// P12.1, P12.2, P12.4: all code that is right of few instructions, of those on which most hangs.
func TestAllShortCode(t *testing.T) {
	w := small(t)
	errs, loops := count{}, 0
	for whole := 1; whole <= 6; whole++ {
		var pool []api.Ins
		for _, op := range []int{code.OpSelf, code.OpTrue, code.OpNot, code.OpEq, code.OpLoad, code.OpAny, code.OpOnly} {
			pool = append(pool, api.Ins{Op: op})
		}
		pool = append(pool, api.Ins{Op: code.OpStep, Arg: 1}, api.Ins{Op: code.OpKids, Text: "item"})
		for _, word := range []string{"and", "unless", "jump", "next", "take"} {
			for place := range whole + 1 {
				pool = append(pool, api.Ins{Op: opOf(word), Arg: place})
			}
		}
		// What stands for what is still to come is a next, as that may stand behind an any, but none that may be.
		unknown := api.Ins{Op: code.OpNext, Arg: -1}
		var grow func(l []api.Ins)
		grow = func(l []api.Ins) {
			if len(l) == whole {
				if isRight(l) {
					c := w.asked(t, api.Code{List: l}, 1)
					errs[int(c.err)]++
					if c.err == api.OK && c.steps > 2 {
						loops++
					}
				}
				return
			}
			for _, n := range pool {
				longer := append(slices.Clone(l), n)
				padded := append(slices.Clone(longer), slices.Repeat([]api.Ins{unknown}, whole-len(longer))...)
				if at, err := code.Right(api.Code{List: padded}); err == api.OK || at >= len(longer) {
					grow(longer)
				}
			}
		}
		grow(nil)
	}
	errs.atLeast(t, 5000, int(api.OK), int(api.ErrKind))
	if loops < 500 {
		t.Errorf("%d loops of several turns", loops)
	}
}
