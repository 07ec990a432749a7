package kinds_test

import (
	"slices"
	"testing"

	"topiary/api"
	"topiary/expr"
	"topiary/kinds"
)

// asking are the Kinds that ask just one kind of values, by that.
var asking = map[int]int{api.VList: api.ESize, api.VInt: api.EShow, api.VNode: api.EConcept, api.VText: api.ERead, api.VBool: api.ENot}

// justOne asks P9.3 of an expression of that kind, in which nothing is free; of one without a kind that it has none below another node either.
func justOne(t *testing.T, x tree) {
	t.Helper()
	kind, at, err := kinds.Of(x.expr())
	for value, asks := range asking {
		over := of(asks, x)
		e := over.expr()
		made, place, got := kinds.Of(e)
		switch {
		case over.tooGreat():
			isRefused(t, e, api.ErrFull)
		case err != api.OK:
			if made != 0 || place != at+1 || got != err {
				t.Fatalf("Of(%s): %d, %d, %d; not %d, %d", text(e), made, place, got, at+1, err)
			}
		case value == kind:
			if made != formsOf(asks)[0].made || place != 0 || got != api.OK {
				t.Fatalf("Of(%s): %d, %d, %d", text(e), made, place, got)
			}
		default:
			if made != 0 || place != 0 || got != api.ErrKind {
				t.Fatalf("Of(%s): %d, %d, %d", text(e), made, place, got)
			}
		}
	}
}

// parts asks P9.4 of an expression that has a kind, and answers the numbers of the parts in which nothing is free.
func parts(t *testing.T, x tree) []int {
	t.Helper()
	e := x.expr()
	each, _, err := kinds.Each(e)
	if err != api.OK {
		t.Fatalf("Each(%s): %d", text(e), err)
	}
	var closed []int
	for at := range e.Nodes {
		part, err := expr.Part(e, at)
		if err != api.OK {
			t.Fatalf("Part(%s, %d): %d", text(e), at, err)
		}
		free, err := kinds.Free(part)
		if err != api.OK || !slices.Equal(free, freeOf(part.Nodes)) {
			t.Fatalf("Free(%s): %v, %d", text(part), free, err)
		}
		if len(free) > 0 {
			continue
		}
		if kind, _, err := kinds.Of(part); kind != each[at] || err != api.OK {
			t.Fatalf("Of(%s), a part of %s: %d, %d; not %d", text(part), text(e), kind, err, each[at])
		}
		closed = append(closed, at)
	}
	return closed
}

// inItsPlace asks P9.5 of a part in which nothing is free, and another expression of that kind in which nothing is.
func inItsPlace(t *testing.T, x tree, at int, other tree, value int) {
	t.Helper()
	e := x.expr()
	each, _, _ := kinds.Each(e)
	whole := x.instead(at, other)
	kind, place, err := kinds.Of(whole.expr())
	over := slices.IndexFunc(e.Nodes, func(n api.ENode) bool { return slices.Contains(n.Kids, at) })
	switch {
	case whole.tooGreat():
		isRefused(t, whole.expr(), api.ErrFull)
	case each[at] == value:
		if kind != each[0] || place != 0 || err != api.OK {
			t.Fatalf("Of(%s): %d, %d, %d; not %d as of %s", text(whole.expr()), kind, place, err, each[0], text(e))
		}
	case over < 0:
		if kind != value || place != 0 || err != api.OK {
			t.Fatalf("Of(%s): %d, %d, %d; not %d", text(whole.expr()), kind, place, err, value)
		}
	default:
		if kind != 0 || place != over || err != api.ErrKind {
			t.Fatalf("Of(%s), which was %s: %d, %d, %d; not %d", text(whole.expr()), text(e), kind, place, err, over)
		}
	}
}

// renamedAlike asks P9.6 of an expression, for each of its variables.
func renamedAlike(t *testing.T, x tree) {
	t.Helper()
	each, at, err := kinds.Each(x.expr())
	free, _ := kinds.Free(x.expr())
	for _, name := range x.variables() {
		e := x.renamed(name, "fresh").expr()
		answers(t, e, each, at, err, freeOf(e.Nodes))
		if got, _ := kinds.Free(e); len(got) != len(free) {
			t.Fatalf("Free(%s): %v; of %s: %v", text(e), got, text(x.expr()), free)
		}
	}
	if err == api.OK && len(free) > 0 {
		t.Fatalf("Free(%s): %v", text(x.expr()), free)
	}
}

// all asks all that holds together of an expression that has that kind.
func all(t *testing.T, d dice, x tree, value int) {
	t.Helper()
	e := x.expr()
	if kind, _, err := kinds.Of(e); kind != value || err != api.OK {
		t.Fatalf("Of(%s): %d, %d; not %d", text(e), kind, err, value)
	}
	asAgain(t, e)
	justOne(t, x)
	renamedAlike(t, x)
	for _, at := range parts(t, x) {
		for other := api.VInt; other <= api.VList; other++ {
			inItsPlace(t, x, at, d.of(other, 2+d.IntN(8), 2+d.IntN(4), nil), other)
		}
	}
}

// P9.1 to P9.6: expressions of all kinds, thrown by a dice.
func TestThrownOfAKind(t *testing.T) {
	count, bound := map[int]int{}, 0
	for seed := range uint64(3000) {
		d := newDice(seed)
		value := 1 + d.IntN(5)
		x := d.of(value, 2+d.IntN(24), 2+d.IntN(8), nil)
		all(t, d, x, value)
		for at, n := range x.expr().Nodes {
			count[n.Kind]++
			if n.Kind == api.EVar && isBound(x.expr().Nodes, at) {
				bound++
			}
		}
	}
	for kind := api.EInt; kind <= api.ESum; kind++ {
		if count[kind] < 100 {
			t.Errorf("Kind %d: %d times", kind, count[kind])
		}
	}
	if bound < 300 {
		t.Errorf("%d bound variables", bound)
	}
}

// P9.1 to P9.6: the same near the limits of nodes and of the depth.
func TestThrownGreat(t *testing.T) {
	count := map[bool]int{}
	for seed := range uint64(200) {
		d := newDice(seed + 10000)
		value := 1 + d.IntN(5)
		x := d.of(value, 300+d.IntN(120), pick(d, 12, 20, 31, 32, 33, 34), nil)
		if d.IntN(3) == 0 {
			x, value = d.of(api.VBool, 120, 20, nil), api.VBool
			x = chain(30-x.depth()+d.IntN(5), x)
		}
		count[x.tooGreat()]++
		if x.tooGreat() {
			isRefused(t, x.expr(), api.ErrFull)
			continue
		}
		e := x.expr()
		if kind, _, err := kinds.Of(e); kind != value || err != api.OK {
			t.Fatalf("Of(%s): %d, %d; not %d", text(e), kind, err, value)
		}
		asAgain(t, e)
		justOne(t, x)
		for i, at := range parts(t, x) {
			if other := 1 + d.IntN(5); i%8 == 0 {
				inItsPlace(t, x, at, d.of(other, 2+d.IntN(40), 2+d.IntN(8), nil), other)
			}
		}
	}
	if count[true] < 20 || count[false] < 20 {
		t.Errorf("%v", count)
	}
}

// P9.1, P9.2, P9.6: expressions of any nodes, thrown by a dice.
func TestThrownOfNone(t *testing.T) {
	count := map[api.Errno]int{}
	for seed := range uint64(10000) {
		d := newDice(seed + 20000)
		x := d.any(1+d.IntN(16), 1+d.IntN(6))
		count[asAgain(t, x.expr())]++
		renamedAlike(t, x)
		if free := freeOf(x.expr().Nodes); len(free) == 0 {
			justOne(t, x)
		}
	}
	if count[api.OK] < 500 || count[api.ErrKind] < 2000 || count[api.ErrVar] < 1500 {
		t.Errorf("%v", count)
	}
}

// P9.1, P9.2, P9.6: expressions that have a kind, with one thing changed, or several.
func TestChanged(t *testing.T) {
	count := map[api.Errno]int{}
	behindOthers := 0
	for seed := range uint64(10000) {
		d := newDice(seed + 40000)
		x := d.of(1+d.IntN(5), 4+d.IntN(24), 3+d.IntN(6), nil)
		for range 1 + d.IntN(3) {
			at := d.IntN(x.size())
			switch other := treeAt(x.expr().Nodes, at); d.IntN(4) {
			case 0:
				x = x.instead(at, d.of(1+d.IntN(5), 2+d.IntN(4), 3, []string{"x", "y"}))
			case 1:
				x = x.instead(at, d.any(1+d.IntN(6), 3))
			case 2:
				x = x.instead(at, other.renamed(pick(d, "x", "y", "z"), pick(d, "x", "y", "item")))
			case 3:
				slices.Reverse(other.kids)
				x = x.instead(at, other)
			}
		}
		err := asked(t, x)
		count[err]++
		if err == api.ErrFull {
			continue
		}
		renamedAlike(t, x)
		if _, at, _ := kinds.Of(x.expr()); at > 0 && at < x.size()-1 {
			behindOthers++
		}
	}
	if count[api.OK] < 1000 || count[api.ErrKind] < 1000 || count[api.ErrVar] < 1000 || behindOthers < 1000 {
		t.Errorf("%v, %d", count, behindOthers)
	}
}
