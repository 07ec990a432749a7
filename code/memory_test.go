package code_test

import (
	"reflect"
	"slices"
	"strings"
	"sync"
	"testing"
	"unsafe"

	"topiary/api"
	"topiary/code"
)

// A stretch is the memory of a list or of a text, the spare room behind it included.
type stretch struct {
	from, to uintptr
}

func stretchOf[E any](l []E) []stretch {
	if cap(l) == 0 {
		return nil
	}
	from := uintptr(unsafe.Pointer(unsafe.SliceData(l)))
	return []stretch{{from, from + uintptr(cap(l))*unsafe.Sizeof(l[:1][0])}}
}

func textStretch(s string) []stretch {
	// Texts of one byte may all be the same memory, whoever makes them.
	if len(s) < 2 {
		return nil
	}
	from := uintptr(unsafe.Pointer(unsafe.StringData(s)))
	return []stretch{{from, from + uintptr(len(s))}}
}

// share tells whether any two of the stretches have memory in common.
func share(l []stretch) bool {
	for i, a := range l {
		for _, b := range l[:i] {
			if a.from < b.to && b.from < a.to {
				return true
			}
		}
	}
	return false
}

// codeStretches are the lists and the texts of code, the spare room behind it included.
func codeStretches(l []api.Ins) (lists, texts []stretch) {
	for _, n := range l[:cap(l)] {
		texts = append(texts, textStretch(n.Text)...)
	}
	return stretchOf(l), texts
}

// spaciousExpr is the expression in lists that have spare room, in which something stands, and in texts of their own.
func spaciousExpr(e api.Expr) api.Expr {
	out := make([]api.ENode, 0, len(e.Nodes)+3)
	for _, n := range e.Nodes {
		kids := append(make([]int, 0, len(n.Kids)+3), n.Kids...)
		for i := len(kids); i < cap(kids); i++ {
			kids[:cap(kids)][i] = 77
		}
		n.Kids, n.Text = kids, strings.Clone(n.Text)
		out = append(out, n)
	}
	for i := len(out); i < cap(out); i++ {
		out[:cap(out)][i] = api.ENode{Kind: 77, Text: "spare", Kids: []int{77}}
	}
	return api.Expr{Nodes: out}
}

// withSpare is the expression with its spare room as part of it, in memory of its own.
func withSpare(e api.Expr) api.Expr {
	out := slices.Clone(e.Nodes[:cap(e.Nodes)])
	for i := range out {
		out[i].Kids = slices.Clone(out[i].Kids[:cap(out[i].Kids)])
	}
	return api.Expr{Nodes: out}
}

// spacious is the code in a list that has spare room, in which something stands, and in texts of its own.
func spacious(l []api.Ins) []api.Ins {
	out := make([]api.Ins, 0, len(l)+3)
	for _, n := range l {
		n.Text = strings.Clone(n.Text)
		out = append(out, n)
	}
	for i := len(out); i < cap(out); i++ {
		out[:cap(out)][i] = api.Ins{Op: 77, Text: "spare"}
	}
	return out
}

// someExprs are texts of expressions.
var someExprs = []string{
	`"text" + self.name`, `"" == "a"`, `any item in self#items: item->target?Concept and item!!Other == other end`,
	`if first(self#ab).cd == "ef" then "yes" else text(12) end`, `sum xx in self#ab: sum yy in xx#cd: id(yy) end end`, `"` + strings.Repeat("v", 3000) + `"`,
}

// P0.4: what is handed in stays as it is, the spare room too; what is answered shares nothing with it, nor with another answer.
func TestMemory(t *testing.T) {
	for _, s := range someExprs {
		e := spaciousExpr(read(t, s))
		was := withSpare(e)
		lists, texts := stretchOf(e.Nodes), []stretch(nil)
		for _, n := range e.Nodes {
			lists, texts = append(lists, stretchOf(n.Kids)...), append(texts, textStretch(n.Text)...)
		}
		text := ""
		for range 2 {
			c, _ := code.Compile(e)
			a, b := codeStretches(c.List)
			lists, texts = append(lists, a...), append(texts, b...)
			text, _ = code.Print(c)
			// And the answer is the caller's own.
			for i := range c.List[:cap(c.List)] {
				c.List[:cap(c.List)][i] = api.Ins{Op: -7, Text: "scribbled"}
			}
		}
		// The text's own memory stands in a longer one.
		whole := "ahead" + text + "behind"
		texts = append(texts, textStretch(whole)...)
		for range 2 {
			c, _, err := code.Parse(whole[len("ahead") : len(whole)-len("behind")])
			if err != api.OK {
				t.Fatalf("Parse(%q): %d", text, err)
			}
			a, b := codeStretches(c.List)
			lists, texts = append(lists, a...), append(texts, b...)
			printed, _ := code.Print(c)
			texts = append(texts, textStretch(printed)...)
		}
		if share(lists) || share(texts) {
			t.Errorf("answers for %s share memory", s)
		}
		if !reflect.DeepEqual(withSpare(e), was) {
			t.Errorf("handed in: %+v, then %+v", was, withSpare(e))
		}
	}
}

// P0.4: the same of code that is handed in, right or not.
func TestCodeStays(t *testing.T) {
	for _, s := range []string{
		"", "self", "self, self", "add", "self, prop name, text \"text\", eq", "true, unless 4, true, jump 5, true", "true, unless 3, true", "self, any, next 5, load 0, take 2", "self, any, next 5, load 1, take 2",
	} {
		l := spacious(list(t, s))
		was := slices.Clone(l[:cap(l)])
		for range 2 {
			code.Right(api.Code{List: l})
			code.Print(api.Code{List: l})
			if !slices.Equal(l[:cap(l)], was) {
				t.Fatalf("handed in: %v, then %v", was, l[:cap(l)])
			}
		}
	}
}

// P0.3, P0.4: what is done to an answer, or to what was handed in, changes no later one; a refused call changes nothing.
func TestNothingKept(t *testing.T) {
	const s = `any x in self#ab: x.cd == "ef" and y end`
	want := lines(`step 3, self, kids ab, any, next 16, step 3, load 0, prop cd, step 1, text "ef", eq, and 15, step 1, free, truth, take 4`)
	want = strings.Replace(want, "step 3\nload", "step 4\nload", 1)
	e := read(t, s)
	for range 3 {
		compiles(t, e, want)
		c, _ := code.Compile(e)
		at, err := code.Right(c)
		if at != 0 || err != api.OK {
			t.Fatalf("%d, %d", at, err)
		}
		c.List[11].Arg = 13
		isNone(t, c.List, 12, api.ErrCode)
		c.List[11].Arg = 15
		isCode(t, c.List)
		isNone(t, nil, 0, api.ErrCode)
		refuses(t, "self\nself\n", 2)
		if _, err := code.Compile(api.Expr{}); err != api.ErrExpr {
			t.Fatalf("%d", err)
		}
		// What these bind, they bind no longer when they have answered.
		compiles(t, read(t, "x"), lines("step 1, free"))
		e.Nodes[0].Text = "y"
		compiles(t, e, strings.NewReplacer("load 0", "free", "free", "load 0").Replace(want))
		e.Nodes[0].Text = "x"
	}
}

// P11.1 to P11.4: several hands at once.
func TestSeveralHands(t *testing.T) {
	var hands sync.WaitGroup
	for i := range 8 {
		hands.Go(func() {
			for k := range 100 {
				s := someExprs[(i+k)%len(someExprs)]
				e := read(t, s)
				c, e1 := code.Compile(e)
				at, e2 := code.Right(c)
				text, e3 := code.Print(c)
				back, place, e4 := code.Parse(text)
				if e1 != api.OK || e2 != api.OK || e3 != api.OK || e4 != api.OK || at != 0 || place != 0 || text != codeText(treeOf(e.Nodes, 0)) || !slices.Equal(back.List, c.List) {
					t.Errorf("%s: %d, %d, %d, %d", s, e1, e2, e3, e4)
					return
				}
			}
		})
	}
	hands.Wait()
}
