package kinds_test

import (
	"reflect"
	"slices"
	"strings"
	"sync"
	"testing"
	"unsafe"

	"topiary/api"
	"topiary/kinds"
)

// A stretch is the memory of a list or of a text, the spare room behind it included.
type stretch struct {
	from, to uintptr
}

func stretchOf[E any](l []E) []stretch {
	if cap(l) == 0 {
		return nil
	}
	from := uintptr(unsafe.Pointer(unsafe.SliceData(l)))
	return []stretch{{from, from + uintptr(cap(l))*unsafe.Sizeof(l[:1][0])}}
}

func textStretch(s string) []stretch {
	// Texts of one byte may all be the same memory, whoever makes them.
	if len(s) < 2 {
		return nil
	}
	from := uintptr(unsafe.Pointer(unsafe.StringData(s)))
	return []stretch{{from, from + uintptr(len(s))}}
}

// share tells whether any two of the stretches have memory in common.
func share(l []stretch) bool {
	for i, a := range l {
		for _, b := range l[:i] {
			if a.from < b.to && b.from < a.to {
				return true
			}
		}
	}
	return false
}

// spacious is the expression in lists that have spare room, in which something stands, and in texts of their own.
func spacious(e api.Expr) api.Expr {
	out := make([]api.ENode, 0, len(e.Nodes)+3)
	for _, n := range e.Nodes {
		kids := append(make([]int, 0, len(n.Kids)+3), n.Kids...)
		for i := len(kids); i < cap(kids); i++ {
			kids[:cap(kids)][i] = 77
		}
		n.Kids, n.Text = kids, strings.Clone(n.Text)
		out = append(out, n)
	}
	for i := len(out); i < cap(out); i++ {
		out[:cap(out)][i] = api.ENode{Kind: 77, Text: "spare", Kids: []int{77}}
	}
	return api.Expr{Nodes: out}
}

// withSpare is the expression with its spare room as part of it, in memory of its own.
func withSpare(e api.Expr) api.Expr {
	out := slices.Clone(e.Nodes[:cap(e.Nodes)])
	for i := range out {
		out[i].Kids = slices.Clone(out[i].Kids[:cap(out[i].Kids)])
	}
	return api.Expr{Nodes: out}
}

// someExprs are expressions, such that have a kind and others, and lists of nodes that are none.
func someExprs(t *testing.T) []api.Expr {
	var out []api.Expr
	for _, s := range []string{
		"1", "size(self#ab) < 2", "any item in self#ab: item.cd == text(1) end", "only item in self#ab: any item in item#cd: true end end",
		"xx + yy + xx + zz", "any xx in xx#ab: yy == zz end", "1 + true", "if xx then yy else zz end",
	} {
		out = append(out, read(t, s))
	}
	turned := read(t, "1 + 2")
	turned.Nodes[0].Kids = []int{2, 1}
	return append(out, turned, chain(33, yes).expr(), sum(257, one).expr(), api.Expr{})
}

// P0.4: what is handed in stays as it is, the spare room too; what is answered shares nothing with it, nor with another answer.
func TestMemory(t *testing.T) {
	for _, e := range someExprs(t) {
		e = spacious(e)
		was := withSpare(e)
		memory := stretchOf(e.Nodes)
		var texts []stretch
		for _, n := range e.Nodes {
			memory, texts = append(memory, stretchOf(n.Kids)...), append(texts, textStretch(n.Text)...)
		}
		for range 2 {
			kinds.Of(e)
			each, _, _ := kinds.Each(e)
			free, _ := kinds.Free(e)
			memory = slices.Concat(memory, stretchOf(each), stretchOf(free))
			for _, s := range free[:cap(free)] {
				texts = append(texts, textStretch(s)...)
			}
		}
		if share(memory) || share(texts) {
			t.Errorf("answers for %s share memory", text(e))
		}
		if !reflect.DeepEqual(withSpare(e), was) {
			t.Errorf("handed in: %+v, then %+v", was, withSpare(e))
		}
	}
}

// P0.3, P0.4: what is done to an answer changes no later one; a refused call changes nothing, nor does one that is left early.
func TestNothingKept(t *testing.T) {
	const s = "any x in self#a: x == y and z?A end"
	bound := read(t, "any x in self#a: x?A and (any x in self#b: true end) end")
	for range 3 {
		l, err := kinds.Free(read(t, s))
		if err != api.OK || !slices.Equal(l, []string{"y", "z"}) {
			t.Fatalf("Free(%s): %v, %d", s, l, err)
		}
		for i := range l[:cap(l)] {
			l[:cap(l)][i] = "scribbled"
		}
		each, _, err := kinds.Each(bound)
		if err != api.OK || !slices.Equal(each, []int{3, 5, 4, 3, 3, 4, 3, 5, 4, 3}) {
			t.Fatalf("Each(%s): %v, %d", text(bound), each, err)
		}
		for i := range each[:cap(each)] {
			each[:cap(each)][i] = -7
		}
		// What these bind, they bind no longer when they have answered.
		isWrong(t, "any x in self#a: any y in x#b: not y end end", 6, api.ErrKind)
		isWrong(t, "x == y", 1, api.ErrVar)
		isRefused(t, api.Expr{}, api.ErrExpr)
		isRefused(t, sum(257, one).expr(), api.ErrFull)
		// And an expression may be changed between two calls.
		e := read(t, "1 + 2")
		isKind := func(want int) {
			t.Helper()
			if kind, _, _ := kinds.Of(e); kind != want {
				t.Fatalf("Of(%s): %d", text(e), kind)
			}
		}
		isKind(api.VInt)
		e.Nodes[0].Kind = api.ELt
		isKind(api.VBool)
		e.Nodes[2] = api.ENode{Kind: api.ESelf}
		isKind(0)
	}
}

// P9.1, P9.2: several hands at once.
func TestSeveralHands(t *testing.T) {
	l := someExprs(t)
	var hands sync.WaitGroup
	for i := range 8 {
		hands.Go(func() {
			for k := range 200 {
				e := l[(i+k)%8]
				each, at, err := told(e.Nodes)
				got, place, e1 := kinds.Each(e)
				free, e2 := kinds.Free(e)
				if !slices.Equal(each, got) || at != place || err != e1 || e2 != api.OK || !slices.Equal(free, freeOf(e.Nodes)) {
					t.Errorf("%s: %v, %d, %d; %v, %d", text(e), got, place, e1, free, e2)
					return
				}
			}
		})
	}
	hands.Wait()
}
