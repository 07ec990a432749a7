package expr_test

import (
	"slices"
	"strings"
	"sync"
	"testing"
	"unsafe"

	"topiary/api"
	"topiary/expr"
)

// A stretch is the memory of a list or of a text, the spare room behind it included.
type stretch struct {
	from, to uintptr
	of       string
}

func stretchOf[E any](l []E, of string) []stretch {
	if cap(l) == 0 {
		return nil
	}
	from := uintptr(unsafe.Pointer(unsafe.SliceData(l)))
	return []stretch{{from, from + uintptr(cap(l))*unsafe.Sizeof(l[:1][0]), of}}
}

func textStretch(s, of string) []stretch {
	// Texts of one byte may all be the same memory, whoever makes them.
	if len(s) < 2 {
		return nil
	}
	from := uintptr(unsafe.Pointer(unsafe.StringData(s)))
	return []stretch{{from, from + uintptr(len(s)), of}}
}

// listsOf are the stretches of an expression's lists.
func listsOf(e api.Expr, of string) []stretch {
	out := stretchOf(e.Nodes, of)
	for _, n := range e.Nodes {
		out = append(out, stretchOf(n.Kids, of+": Kids")...)
	}
	return out
}

func textsOf(e api.Expr, of string) []stretch {
	var out []stretch
	for _, n := range e.Nodes {
		out = append(out, textStretch(n.Text, of+": a Text")...)
	}
	return out
}

// apart tells of lists that share memory.
func apart(t *testing.T, l []stretch) {
	t.Helper()
	for i, a := range l {
		for _, b := range l[:i] {
			if a.from < b.to && b.from < a.to {
				t.Fatalf("%s and %s share memory", a.of, b.of)
			}
		}
	}
}

// spacious is the expression in lists that have spare room, in which something stands, and in texts of their own.
func spacious(e api.Expr) api.Expr {
	out := make([]api.ENode, 0, len(e.Nodes)+3)
	for _, n := range e.Nodes {
		kids := append(make([]int, 0, len(n.Kids)+3), n.Kids...)
		for i := len(kids); i < cap(kids); i++ {
			kids[:cap(kids)][i] = 77
		}
		n.Kids, n.Text = kids, strings.Clone(n.Text)
		out = append(out, n)
	}
	for i := len(out); i < cap(out); i++ {
		out[:cap(out)][i] = api.ENode{Kind: 77, Text: "spare", Kids: []int{77}}
	}
	return api.Expr{Nodes: out}
}

// all is the expression with its spare room as part of it, in memory of its own.
func all(e api.Expr) api.Expr {
	out := slices.Clone(e.Nodes[:cap(e.Nodes)])
	for i := range out {
		out[i].Kids = slices.Clone(out[i].Kids[:cap(out[i].Kids)])
	}
	return api.Expr{Nodes: out}
}

// someExprs are expressions, right ones and others.
func someExprs() []api.Expr {
	var out []api.Expr
	for _, s := range []string{"a", "a + b * c", "if self.a then b else not c end", `any x in self#item: x.v < "ab" end`, "size(a->b^)"} {
		e, _, _ := expr.Parse(s)
		out = append(out, e)
	}
	wrong, _, _ := expr.Parse("a + b")
	wrong.Nodes[0].Kids = []int{2, 1}
	return append(out, wrong, chain(33, a).expr(), bush(257).expr(), api.Expr{})
}

// P0.4: what is handed in stays as it is, the spare room too; what is answered shares nothing with it, nor among itself.
func TestMemory(t *testing.T) {
	for _, e := range someExprs() {
		e = spacious(e)
		was := all(e)
		expr.Right(e)
		expr.Print(e)
		lists, texts := listsOf(e, "what was handed in"), textsOf(e, "what was handed in")
		first, _ := expr.Print(e)
		second, _ := expr.Print(e)
		texts = append(append(texts, textStretch(first, "a text")...), textStretch(second, "a text again")...)
		for at := -1; at <= len(e.Nodes); at++ {
			for range 2 {
				p, _ := expr.Part(e, at)
				lists, texts = append(lists, listsOf(p, "a part")...), append(texts, textsOf(p, "a part")...)
			}
			if len(lists) > 500 {
				break
			}
		}
		apart(t, lists)
		apart(t, texts)
		if !same(all(e), was) {
			t.Errorf("handed in: %+v, then %+v", was, all(e))
		}
	}
}

// P0.4: what Parse answers has memory of its own, and nothing of the text's.
func TestReadMemory(t *testing.T) {
	for _, s := range []string{"ab", `"ab"`, "self.ab + cd", "a - b - c - d", `any item in self#item: item.val < "ab" end`, "if a then b else c end"} {
		s = string([]byte(s))
		a, _, _ := expr.Parse(s)
		b, _, _ := expr.Parse(s)
		apart(t, append(listsOf(a, "an answer"), listsOf(b, "an answer again")...))
		apart(t, slices.Concat(textStretch(s, "the text"), textsOf(a, "an answer")))
	}
}

// P0.3, P0.4: what is done to an answer changes no later one, nor what it was made of; a refused call changes nothing.
func TestNothingKept(t *testing.T) {
	const s = "if self.a - b - c then x else size(y) end"
	x, _, ok := read(tokensOf(pieces(strings.Fields(strings.NewReplacer(".", " . ", "(", " ( ", ")", " ) ").Replace(s))...)))
	if !ok {
		t.Fatalf("%q is no expression", s)
	}
	want := x.expr()
	scribble := func(e api.Expr) {
		for _, n := range e.Nodes[:cap(e.Nodes)] {
			for i := range n.Kids[:cap(n.Kids)] {
				n.Kids[:cap(n.Kids)][i] = -7
			}
		}
		for i := range e.Nodes[:cap(e.Nodes)] {
			e.Nodes[:cap(e.Nodes)][i] = api.ENode{Kind: 77}
		}
	}
	for range 2 {
		e, _, _ := expr.Parse(s)
		for at := range e.Nodes {
			p, _ := expr.Part(e, at)
			scribble(p)
		}
		wrongAt(t, "if a then", 9)
		refuses(t, "a = b", 3, api.ErrLex)
		isWrong(t, nil, api.ErrExpr)
		if text, err := expr.Print(e); err != api.OK || text != s {
			t.Errorf("Print: %q, %d", text, err)
		}
		if !same(e, want) {
			t.Errorf("%+v", e)
		}
		scribble(e)
	}
}

// P8.1, P8.3: several hands at once.
func TestSeveralHands(t *testing.T) {
	texts := []string{"a + b", "not a", "self.a->b", "if a then b else c end", "any x in a: b end", "a or b and c"}
	var hands sync.WaitGroup
	for i := range 8 {
		hands.Go(func() {
			for k := range 200 {
				s := texts[(i+k)%len(texts)]
				e, _, _ := expr.Parse(s)
				expr.Parse(s + " )")
				if own, err := expr.Print(e); err != api.OK || own != s {
					t.Errorf("Print of Parse(%q): %q, %d", s, own, err)
					return
				}
			}
		})
	}
	hands.Wait()
}
