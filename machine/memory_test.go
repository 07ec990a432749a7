package machine_test

import (
	"reflect"
	"slices"
	"strings"
	"sync"
	"testing"
	"unsafe"

	"topiary/api"
	"topiary/code"
	"topiary/machine"
)

// A stretch is the memory of a list or of a text, the spare room behind it included.
type stretch struct {
	from, to uintptr
}

func stretchOf[E any](l []E) []stretch {
	if cap(l) == 0 {
		return nil
	}
	from := uintptr(unsafe.Pointer(unsafe.SliceData(l)))
	return []stretch{{from, from + uintptr(cap(l))*unsafe.Sizeof(l[:1][0])}}
}

func textStretch(s string) []stretch {
	// Texts of one byte may all be the same memory, whoever makes them.
	if len(s) < 2 {
		return nil
	}
	from := uintptr(unsafe.Pointer(unsafe.StringData(s)))
	return []stretch{{from, from + uintptr(len(s))}}
}

// meet tells whether one of some stretches has memory in common with one of others.
func meet(l, others []stretch) bool {
	for _, a := range l {
		for _, b := range others {
			if a.from < b.to && b.from < a.to {
				return true
			}
		}
	}
	return false
}

// spacious is a list with spare room, in which something stands.
func spacious[E any](l []E, spare E) []E {
	out := append(make([]E, 0, len(l)+3), l...)
	for i := len(out); i < cap(out); i++ {
		out[:cap(out)][i] = spare
	}
	return out
}

// spaciousModel is the model in lists that have spare room, and in texts of its own.
func spaciousModel(m api.Model) api.Model {
	var nodes []api.Node
	for _, n := range m.Nodes {
		n.Concept, n.Role = strings.Clone(n.Concept), strings.Clone(n.Role)
		n.Kids = spacious(n.Kids, 77)
		n.Props = spacious(n.Props, api.Prop{Name: "spare", Value: "room"})
		for i, p := range n.Props {
			n.Props[i] = api.Prop{Name: strings.Clone(p.Name), Value: strings.Clone(p.Value)}
		}
		n.Refs = spacious(n.Refs, api.Ref{Role: "spare", Target: 77})
		nodes = append(nodes, n)
	}
	return api.Model{Next: m.Next, Nodes: spacious(nodes, api.Node{ID: 77, Concept: "Spare"})}
}

func spaciousCode(c api.Code) api.Code {
	var l []api.Ins
	for _, n := range c.List {
		n.Text = strings.Clone(n.Text)
		l = append(l, n)
	}
	return api.Code{List: spacious(l, api.Ins{Op: 77, Text: "spare"})}
}

// memoryOf are the stretches of all lists of what is handed in, and of all texts.
func memoryOf(m api.Model, c api.Code) (lists, texts []stretch) {
	lists = slices.Concat(stretchOf(m.Nodes), stretchOf(c.List))
	for _, n := range m.Nodes {
		lists = slices.Concat(lists, stretchOf(n.Kids), stretchOf(n.Props), stretchOf(n.Refs))
		texts = slices.Concat(texts, textStretch(n.Concept), textStretch(n.Role))
		for _, p := range n.Props {
			texts = slices.Concat(texts, textStretch(p.Name), textStretch(p.Value))
		}
	}
	for _, n := range c.List {
		texts = append(texts, textStretch(n.Text)...)
	}
	return lists, texts
}

// A held is what was handed in, its spare room as part of it.
type held struct {
	nodes []api.Node
	code  []api.Ins
}

func hold(m api.Model, c api.Code) held {
	h := held{slices.Clone(m.Nodes[:cap(m.Nodes)]), slices.Clone(c.List[:cap(c.List)])}
	for i, n := range h.nodes {
		h.nodes[i].Kids = slices.Clone(n.Kids[:cap(n.Kids)])
		h.nodes[i].Props = slices.Clone(n.Props[:cap(n.Props)])
		h.nodes[i].Refs = slices.Clone(n.Refs[:cap(n.Refs)])
	}
	return h
}

// someCode comes to lists, texts and others in all ways, and to errors.
func someCode() []string {
	return []string{
		"self, kids item", "self, all Item", over("only", "load 0, is Num"), "self, kids w", "self, kids note", "true, unless 5, self, kids item, jump 7, self, all Num",
		over("only", "true") + ", only, next 10, true, take 7", "step 2, self, kids item, jump 4",
		"self, prop name", "self, kids item, first, prop v", `text "words"`, `text "words", truth`, `self, prop name, text "", add`, `text "", text "words", add`, "self, concept", `self, concept, text "", add`,
		"int 12, show", "int -9223372036854775808, show", over("any", "load 0, is Sum"), over("sum", "load 0, id"), "self", "self, ref to",
		"free", "int 1, true, add", "none, id", "self, prop name, read", "int 9223372036854775807, int 1, add", "step 5, step 5, true",
	}
}

// P0.4: what is handed in stays as it is, the spare room too; what is answered shares nothing with it, nor with another answer.
func TestMemory(t *testing.T) {
	w := wide(t)
	w.m.Nodes[0].Props[0].Value = "long words"
	for _, s := range someCode() {
		m, c := spaciousModel(w.m), spaciousCode(of(t, s))
		was := hold(m, c)
		lists, texts := memoryOf(m, c)
		for range 3 {
			for _, fuel := range []int{0, 3, 7, 1000} {
				v, _, _ := machine.Run(w.table, m, c, 1, fuel)
				begun, _ := machine.Profile(w.table, m, c, 1, fuel)
				for _, l := range [][]int{v.List, begun} {
					if meet(lists, stretchOf(l)) {
						t.Errorf("an answer for %s shares memory", s)
					}
					lists = append(lists, stretchOf(l)...)
					// The spare room is the caller's, too.
					for i := range l[:cap(l)] {
						l[:cap(l)][i] = -5
					}
				}
				if meet(texts, textStretch(v.Text)) {
					t.Errorf("a text for %s shares memory", s)
				}
				texts = append(texts, textStretch(v.Text)...)
			}
		}
		if now := hold(m, c); !reflect.DeepEqual(now, was) {
			t.Errorf("handed in for %s: %+v, then %+v", s, was, now)
		}
	}
}

// P0.3, P0.4: nothing is kept from call to call, whether it was refused, failed or was left early.
func TestNothingKept(t *testing.T) {
	w, other := wide(t), small(t)
	for range 3 {
		w.is(t, "self, kids item", 1, "[2 4 5], 0 steps")
		other.is(t, "self, kids item", 1, "[2 3 4], 0 steps")
		w.answers(t, of(t, over("any", "free")), 1, 99, come{err: api.ErrVar})
		w.answers(t, of(t, over("any", "load 0, is Sum")), 1, 1, come{err: api.ErrFuel})
		w.isRefused(t, api.Code{}, 1, 99, api.ErrCode)
		w.isRefused(t, of(t, "true"), 1, -1, api.ErrArg)
		w.is(t, over("sum", "load 0, id"), 1, "11, 3 steps")
		w.profile(t, over("sum", "load 0, id"), 1, 9, "1 1 1 4 3 3 3", api.OK)
		w.profile(t, over("sum", "load 0, id"), 1, 2, "1 1 1 3 2 2 2", api.ErrFuel)
	}
	// A model and code may be changed between two calls.
	c := of(t, "self, prop name")
	w.answers(t, c, 1, 9, come{v: words("l")})
	w.m.Nodes[0].Props[0].Value = "k"
	w.answers(t, c, 1, 9, come{v: words("k")})
	c.List[1] = api.Ins{Op: code.OpKids, Text: "item"}
	w.answers(t, c, 1, 9, come{v: list([]int{2, 4, 5})})
	w.m.Nodes[0].Kids = []int{5, 3, 4, 2}
	w.answers(t, c, 1, 9, come{v: list([]int{5, 4, 2})})
	w.m.Nodes[1].Role = "note"
	w.answers(t, c, 1, 9, come{v: list([]int{5, 4})})
}

// P0.1, P12.1, P12.2: several hands at once, with one table and one model.
func TestSeveralHands(t *testing.T) {
	w := wide(t)
	var l []api.Code
	for _, s := range someCode() {
		l = append(l, of(t, s))
	}
	var hands sync.WaitGroup
	for i := range 8 {
		hands.Go(func() {
			for k := range 200 {
				c, self, fuel := l[(i+k)%len(l)], k%11, k%20
				all := slow{ls: w.ls, m: w.m, self: self, list: c.List}.come()
				want := all.with(fuel)
				v, steps, err := machine.Run(w.table, w.m, c, self, fuel)
				begun, told := machine.Profile(w.table, w.m, c, self, fuel)
				if !sameValue(v, want.v) || steps != want.steps || err != want.err || told != err || !slices.Equal(begun, all.begun(len(c.List), fuel)) {
					t.Errorf("%s: %s, not %s; %v", row(c), come{v: v, err: err, steps: steps}.show(), want.show(), begun)
					return
				}
			}
		})
	}
	hands.Wait()
}
