package expr_test

import (
	"slices"
	"strings"
	"testing"

	"topiary/api"
	"topiary/expr"
	"topiary/lex"
)

// told asks all that the chapter says of a text, and tells what became of it; of own texts too, if that is not too slow.
func told(t *testing.T, s string, own bool) api.Errno {
	t.Helper()
	tokens, at, e := lex.Scan(s)
	if e != api.OK {
		refuses(t, s, at, e)
		return e
	}
	x, wrong, ok := read(tokens)
	if !ok {
		at := len(s)
		if wrong < len(tokens) {
			at = tokens[wrong].At
		}
		wrongAt(t, s, at)
		isFirst(t, s, at)
		return api.ErrExpr
	}
	if x.tooGreat() {
		refuses(t, s, 0, api.ErrFull)
		inTwoBrackets(t, s)
		return api.ErrFull
	}
	reads(t, s, x)
	inTwoBrackets(t, s)
	if own {
		tellsOrLong(t, x, ownText(x))
	}
	andAgain(t, x.expr())
	return api.OK
}

// isFirst asks P8.6 of a text that is refused at a place.
func isFirst(t *testing.T, s string, at int) {
	t.Helper()
	_, end, err := expr.Parse(s[:at])
	if err != api.OK && err != api.ErrFull && (err != api.ErrExpr || end != at) {
		t.Fatalf("Parse(%q), which %q begins with: %d, %d", s[:at], s, end, err)
	}
}

// inTwoBrackets asks P8.6 of a text that is an expression.
func inTwoBrackets(t *testing.T, s string) {
	t.Helper()
	if len(s)+2 > 4096 {
		return
	}
	a, at, err := expr.Parse(s)
	b, at2, err2 := expr.Parse("(" + s + ")")
	if at != at2 || err != err2 || !same(a, b) {
		t.Fatalf("Parse(%q): %+v, %d, %d; in brackets: %+v, %d, %d", s, a, at, err, b, at2, err2)
	}
}

// andAgain asks P8.5 of an expression that is right.
func andAgain(t *testing.T, e api.Expr) {
	t.Helper()
	s, err := expr.Print(e)
	if err == api.ErrLong {
		return
	}
	again, at, err2 := expr.Parse(s)
	if err != api.OK || err2 != api.OK || at != 0 || !same(e, again) {
		t.Fatalf("Parse of Print of %+v: %q, %d; %+v, %d, %d", e, s, err, again, at, err2)
	}
	if s2, err := expr.Print(again); err != api.OK || s2 != s {
		t.Fatalf("Print of Parse(%q): %q, %d", s, s2, err)
	}
	if err := expr.Right(again); err != api.OK {
		t.Fatalf("Right of Parse(%q): %d", s, err)
	}
}

// P8.1, P8.3, P8.5, P8.6: all texts of a few tokens.
func TestAllShortTexts(t *testing.T) {
	count := map[api.Errno]int{}
	var grow func(s string, of []string, n int)
	grow = func(s string, of []string, n int) {
		count[told(t, s, true)]++
		if n == 0 {
			return
		}
		for _, w := range of {
			grow(s+w+" ", of, n-1)
		}
	}
	grow("", tokenTexts, 3)
	grow("", strings.Fields("a - 1 not ( ) * ^"), 5)
	grow("", strings.Fields("a == < and or not - +"), 5)
	grow("", strings.Fields("if then else end a"), 6)
	grow("any ", strings.Fields("x in : end any"), 6)
	grow("any x in a : ", strings.Fields("x in : end ^ ."), 5)
	grow("a ", strings.Fields(". # ? !! -> ^ b 1"), 5)
	grow("size ", strings.Fields("( ) a size ^"), 6)
	if count[api.OK] < 1500 || count[api.ErrExpr] < 50000 {
		t.Errorf("%v", count)
	}
}

// P8.1 to P8.6: trees thrown by a dice, their own texts, texts with more brackets, and texts that are changed.
func TestThrownTrees(t *testing.T) {
	kinds, count := map[int]int{}, map[api.Errno]int{}
	for seed := range uint64(2500) {
		d := newDice(seed)
		x := d.tree(1+d.IntN(14), 2+d.IntN(7))
		l := ownPieces(x)
		tellsOrLong(t, x, glued(l))
		reads(t, inBrackets(x), x)
		for _, p := range x.parts() {
			kinds[p.kind]++
		}
		texts := make([]string, len(l))
		for i, p := range l {
			texts[i] = p.text
		}
		reads(t, d.spaced(texts), x)
		for range 4 {
			changed := d.changed(texts)
			if d.IntN(3) == 0 {
				changed = d.changed(changed)
			}
			s := strings.Join(changed, " ")
			if d.IntN(2) == 0 {
				s = d.spaced(changed)
			}
			count[told(t, s, false)]++
		}
	}
	for _, r := range rows {
		if kinds[r.kind] < 100 {
			t.Errorf("Kind %d: %d times", r.kind, kinds[r.kind])
		}
	}
	if count[api.OK] < 1500 || count[api.ErrExpr] < 4000 {
		t.Errorf("%v", count)
	}
}

// P8.1: texts with a byte more, a byte less, another byte.
func TestBytes(t *testing.T) {
	count := map[api.Errno]int{}
	for _, whole := range []string{
		"any x in self#item: x.v < -3 end", `if a!!Num->to^?Sum then "a\n" else 10 * (b + 0) end`, "not a == b and size(c) != - 5 or true", "sum x in self^: int(x.v) end - -1.a",
	} {
		for i := range whole {
			count[told(t, whole[:i], false)]++
			count[told(t, whole[i:], false)]++
			count[told(t, whole[:i]+whole[i+1:], false)]++
			for _, b := range []byte("\n .=!-\"_5a()^:") {
				count[told(t, whole[:i]+string([]byte{b})+whole[i:], false)]++
				count[told(t, whole[:i]+string([]byte{b})+whole[i+1:], false)]++
			}
		}
	}
	if count[api.OK] < 500 || count[api.ErrExpr] < 500 || count[api.ErrLex] < 100 {
		t.Errorf("%v", count)
	}
}

// P8.1, P8.2, P8.4, P8.5: trees near the limits of nodes and of the depth, thrown by a dice.
func TestThrownGreat(t *testing.T) {
	count := map[api.Errno]int{}
	for seed := range uint64(600) {
		d := newDice(seed + 10000)
		x := d.tree(240+d.IntN(40), pick(d, 12, 20, 31, 32, 33, 34, 40))
		if d.IntN(3) == 0 {
			x = chain(d.IntN(30), x)
		}
		e := x.expr()
		want := api.OK
		if x.tooGreat() {
			want = api.ErrFull
		}
		if err := expr.Right(e); err != want || rightError(e.Nodes) != want {
			t.Fatalf("Right of %d nodes, depth %d: %d", x.size(), x.depth(), err)
		}
		count[want]++
		if s := inBrackets(x); len(s) <= 4096 {
			if want == api.OK {
				reads(t, s, x)
			} else {
				refuses(t, s, 0, want)
			}
		}
		if want != api.OK {
			isWrong(t, e.Nodes, want)
			continue
		}
		andAgain(t, e)
		for at, part := range x.parts() {
			if p, err := expr.Part(e, at); err != api.OK || !same(p, part.expr()) {
				t.Fatalf("Part(%+v, %d): %+v, %d", e, at, p, err)
			}
		}
	}
	if count[api.OK] < 100 || count[api.ErrFull] < 100 {
		t.Errorf("%v", count)
	}
}

// P8.2: all lists of a few nodes, held against the slow way.
func TestAllShortLists(t *testing.T) {
	count := map[api.Errno]int{}
	var pool []api.ENode
	numbers := []int{-1, 0, 1, 2, 3, 4}
	pool = append(pool, api.ENode{Kind: api.ESelf}, api.ENode{Kind: api.EVar, Text: "a"}, api.ENode{Kind: api.EVar})
	for _, a := range numbers {
		pool = append(pool, api.ENode{Kind: api.ENot, Kids: []int{a}})
		for _, b := range numbers {
			pool = append(pool, api.ENode{Kind: api.EAdd, Kids: []int{a, b}})
		}
	}
	pool = append(pool, api.ENode{Kind: api.EIf, Kids: []int{1, 2, 3}}, api.ENode{Kind: api.EIf, Kids: []int{1, 3, 2}}, api.ENode{Kind: api.EIf, Kids: []int{1, 1, 2}})
	var grow func(l []api.ENode)
	grow = func(l []api.ENode) {
		want := rightError(l)
		if err := expr.Right(api.Expr{Nodes: l}); err != want {
			t.Fatalf("Right(%+v): %d, not %d", l, err, want)
		}
		count[want]++
		if len(l) == 4 {
			return
		}
		for _, n := range pool {
			// The last node of four is a leaf or has one kid, so that they are not too many lists.
			if len(l) < 3 || len(n.Kids) < 2 {
				grow(append(slices.Clone(l), n))
			}
		}
	}
	grow(nil)
	if count[api.OK] < 30 || count[api.ErrExpr] < 100000 {
		t.Errorf("%v", count)
	}
}

// P8.2 to P8.4: lists that are changed in one thing or in several.
func TestChangedLists(t *testing.T) {
	count := map[api.Errno]int{}
	for seed := range uint64(20000) {
		d := newDice(seed + 20000)
		l := d.tree(1+d.IntN(12), 2+d.IntN(6)).expr().Nodes
		for range d.IntN(3) {
			l = d.otherwise(l)
		}
		want := rightError(l)
		count[want]++
		if want != api.OK {
			isWrong(t, l, want)
			continue
		}
		if err := expr.Right(api.Expr{Nodes: l}); err != api.OK {
			t.Fatalf("Right(%+v): %d", l, err)
		}
		andAgain(t, api.Expr{Nodes: l})
	}
	if count[api.OK] < 5000 || count[api.ErrExpr] < 5000 {
		t.Errorf("%v", count)
	}
}

// otherwise is the list with one thing changed.
func (d dice) otherwise(l []api.ENode) []api.ENode {
	if len(l) == 0 {
		return []api.ENode{{Kind: d.IntN(37) - 1}}
	}
	i := d.IntN(len(l))
	switch n := &l[i]; d.IntN(8) {
	case 0:
		n.Kind = d.IntN(37) - 1
	case 1:
		n.Text = pick(d, "", "a", "b", "and", "?a", "self", strings.Repeat("n", 33), "item")
	case 2:
		n.Int = pick(d, int64(0), 1, -1, -1<<63, 1<<63-1)
	case 3:
		if len(n.Kids) > 0 {
			n.Kids[d.IntN(len(n.Kids))] += d.IntN(5) - 2
		}
	case 4:
		n.Kids = append(slices.Clone(n.Kids), d.IntN(len(l)+1))
	case 5:
		slices.Reverse(n.Kids)
	case 6:
		k := d.IntN(len(l))
		l[i], l[k] = l[k], l[i]
	case 7:
		return slices.Delete(l, i, i+1)
	}
	return l
}

// P8.6: a text that is refused in brackets may be refused elsewhere alone; what is read alone is read in as many brackets as one likes.
func TestBrackets(t *testing.T) {
	wrongAt(t, "a) or (b", 1)
	reads(t, "(a) or (b)", of(api.EOr, a, b))
	for seed := range uint64(300) {
		d := newDice(seed + 50000)
		x := d.tree(1+d.IntN(20), 8)
		s, err := expr.Print(x.expr())
		if err != api.OK {
			continue
		}
		for range d.IntN(40) {
			s = "(" + d.blanks(false) + s + d.blanks(false) + ")"
		}
		reads(t, s, x)
	}
}
