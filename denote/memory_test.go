package denote_test

import (
	"reflect"
	"slices"
	"strings"
	"sync"
	"testing"
	"unsafe"

	"topiary/api"
	"topiary/denote"
)

// A stretch is the memory of a list or of a text, the spare room behind it included.
type stretch struct {
	from, to uintptr
}

func stretchOf[E any](l []E) []stretch {
	if cap(l) == 0 {
		return nil
	}
	from := uintptr(unsafe.Pointer(unsafe.SliceData(l)))
	return []stretch{{from, from + uintptr(cap(l))*unsafe.Sizeof(l[:1][0])}}
}

func textStretch(s string) []stretch {
	// Texts of one byte may all be the same memory, whoever makes them.
	if len(s) < 2 {
		return nil
	}
	from := uintptr(unsafe.Pointer(unsafe.StringData(s)))
	return []stretch{{from, from + uintptr(len(s))}}
}

// meet tells whether one of some stretches has memory in common with one of others.
func meet(l, others []stretch) bool {
	for _, a := range l {
		for _, b := range others {
			if a.from < b.to && b.from < a.to {
				return true
			}
		}
	}
	return false
}

// spacious is a list with spare room, in which something stands.
func spacious[E any](l []E, spare E) []E {
	out := append(make([]E, 0, len(l)+3), l...)
	for i := len(out); i < cap(out); i++ {
		out[:cap(out)][i] = spare
	}
	return out
}

// spaciousModel is the model in lists that have spare room, and in texts of its own.
func spaciousModel(m api.Model) api.Model {
	var nodes []api.Node
	for _, n := range m.Nodes {
		n.Concept, n.Role = strings.Clone(n.Concept), strings.Clone(n.Role)
		n.Kids = spacious(n.Kids, 77)
		n.Props = spacious(n.Props, api.Prop{Name: "spare", Value: "room"})
		for i, p := range n.Props {
			n.Props[i] = api.Prop{Name: strings.Clone(p.Name), Value: strings.Clone(p.Value)}
		}
		n.Refs = spacious(n.Refs, api.Ref{Role: "spare", Target: 77})
		nodes = append(nodes, n)
	}
	return api.Model{Next: m.Next, Nodes: spacious(nodes, api.Node{ID: 77, Concept: "Spare"})}
}

func spaciousExpr(e api.Expr) api.Expr {
	var nodes []api.ENode
	for _, n := range e.Nodes {
		n.Text, n.Kids = strings.Clone(n.Text), spacious(n.Kids, 77)
		nodes = append(nodes, n)
	}
	return api.Expr{Nodes: spacious(nodes, api.ENode{Kind: 77, Text: "spare"})}
}

// memoryOf are the stretches of all lists of what is handed in, and of all texts.
func memoryOf(m api.Model, e api.Expr) (lists, texts []stretch) {
	lists = slices.Concat(stretchOf(m.Nodes), stretchOf(e.Nodes))
	for _, n := range m.Nodes {
		lists = slices.Concat(lists, stretchOf(n.Kids), stretchOf(n.Props), stretchOf(n.Refs))
		texts = slices.Concat(texts, textStretch(n.Concept), textStretch(n.Role))
		for _, p := range n.Props {
			texts = slices.Concat(texts, textStretch(p.Name), textStretch(p.Value))
		}
	}
	for _, n := range e.Nodes {
		lists, texts = append(lists, stretchOf(n.Kids)...), append(texts, textStretch(n.Text)...)
	}
	return lists, texts
}

// A held is what was handed in, its spare room as part of it.
type held struct {
	nodes []api.Node
	expr  []api.ENode
}

func hold(m api.Model, e api.Expr) held {
	h := held{slices.Clone(m.Nodes[:cap(m.Nodes)]), slices.Clone(e.Nodes[:cap(e.Nodes)])}
	for i, n := range h.nodes {
		h.nodes[i].Kids = slices.Clone(n.Kids[:cap(n.Kids)])
		h.nodes[i].Props = slices.Clone(n.Props[:cap(n.Props)])
		h.nodes[i].Refs = slices.Clone(n.Refs[:cap(n.Refs)])
	}
	for i, n := range h.expr {
		h.expr[i].Kids = slices.Clone(n.Kids[:cap(n.Kids)])
	}
	return h
}

// someTexts are expressions that come to lists, texts and others in all ways, and to errors.
func someTexts() []string {
	return []string{
		"self#item", "self!!Item", "only x in self#item: x?Num end", "only x in self!!Item: true end", "only x in self#item: size(self#item) == 3 end",
		"if self?List then self#item else self!!Num end", "self#w", "self#note", "only x in (only y in self#item: true end): true end",
		"self.name", "first(self#item).v", `"words"`, `if true then "words" else "other" end`, `self.name + ""`, `"" + "words"`, "concept(self)", `concept(self) + ""`,
		"text(12)", "text(-9223372036854775807)", "int(first(self#item).v)", "any x in self#item: x?Sum end", "self->to", "self",
		"x", "1 + true", "first(self!!Sum)->to->to.v", "int(self.name)", "9223372036854775807 + 1",
	}
}

// P0.4: what is handed in stays as it is, the spare room too; what is answered shares nothing with it, nor with another answer.
func TestMemory(t *testing.T) {
	w := wide(t)
	w.m.Nodes[0].Props[0].Value = "long words"
	for _, s := range someTexts() {
		m, e := spaciousModel(w.m), spaciousExpr(read(t, s))
		was := hold(m, e)
		lists, texts := memoryOf(m, e)
		for range 3 {
			for _, fuel := range []int{0, 3, 7, 1000} {
				v, _, _ := denote.Of(w.table, m, e, 1, fuel)
				list, words := stretchOf(v.List), textStretch(v.Text)
				if meet(lists, list) || meet(texts, words) {
					t.Errorf("an answer for %s shares memory", s)
				}
				lists, texts = append(lists, list...), append(texts, words...)
				// The spare room is the caller's, too.
				for i := range v.List[:cap(v.List)] {
					v.List[:cap(v.List)][i] = -5
				}
			}
		}
		if now := hold(m, e); !reflect.DeepEqual(now, was) {
			t.Errorf("handed in for %s: %+v, then %+v", s, was, now)
		}
	}
}

// P0.3, P0.4: nothing is kept from call to call, whether it was refused, failed or was left early.
func TestNothingKept(t *testing.T) {
	w, other := wide(t), small(t)
	for range 3 {
		w.is(t, "self#item", 1, "[2 4 5], 2 steps")
		other.is(t, "self#item", 1, "[2 3 4], 2 steps")
		w.isRefused(t, read(t, "any x in self#item: y end"), 1, 99, api.ErrVar)
		w.isRefused(t, read(t, "any x in self#item: x?Num end"), 1, 5, api.ErrFuel)
		w.isRefused(t, read(t, "x?Num"), 1, 99, api.ErrVar)
		w.isRefused(t, api.Expr{}, 1, 99, api.ErrExpr)
		w.is(t, "any x in self#item: x?Num end", 1, "true, 6 steps")
		w.isRefused(t, read(t, "x?Num"), 1, 99, api.ErrVar)
	}
	// A model and an expression may be changed between two calls.
	e := read(t, "self.name")
	w.answers(t, e, 1, 9, come{v: words("l"), steps: 2})
	w.m.Nodes[0].Props[0].Value = "k"
	w.answers(t, e, 1, 9, come{v: words("k"), steps: 2})
	e.Nodes[0] = api.ENode{Kind: api.EKids, Text: "item", Kids: []int{1}}
	w.answers(t, e, 1, 9, come{v: list([]int{2, 4, 5}), steps: 2})
	w.m.Nodes[0].Kids = []int{5, 3, 4, 2}
	w.answers(t, e, 1, 9, come{v: list([]int{5, 4, 2}), steps: 2})
	w.m.Nodes[1].Role = "note"
	w.answers(t, e, 1, 9, come{v: list([]int{5, 4}), steps: 2})
}

// P0.1, P10.1: several hands at once, with one table and one model.
func TestSeveralHands(t *testing.T) {
	w := wide(t)
	var l []api.Expr
	for _, s := range someTexts() {
		l = append(l, read(t, s))
	}
	var hands sync.WaitGroup
	for i := range 8 {
		hands.Go(func() {
			for k := range 200 {
				e, self, fuel := l[(i+k)%len(l)], k%11, 5+k%40
				want := slow{ls: w.ls, m: w.m, self: self, expr: e.Nodes}.come().with(fuel)
				v, steps, err := denote.Of(w.table, w.m, e, self, fuel)
				if !sameValue(v, want.v) || steps != want.steps || err != want.err {
					t.Errorf("%s: %s, not %s", text(e), come{v, err, steps}.show(), want.show())
					return
				}
			}
		})
	}
	hands.Wait()
}
