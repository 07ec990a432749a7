package conform_test

import (
	"fmt"
	"slices"
	"strings"
	"testing"

	"topiary/api"
	"topiary/conform"
)

// rowOf is a list of n elements.
func rowOf[E any](n int, of func(i int) E) []E {
	out := make([]E, n)
	for i := range out {
		out[i] = of(i)
	}
	return out
}

// chain are 128 concepts, each below the next one; those at the ends have parts, 32 of each kind in all.
func chain() []api.Language {
	c := rowOf(128, func(i int) api.Concept { return api.Concept{Name: nth("C", i), Super: nth("C", i+1)} })
	c[127].Super = ""
	for _, at := range []int{0, 127} {
		c[at].Props = rowOf(16, func(i int) api.PropDef { return api.PropDef{Name: fmt.Sprint("p", at, "_", i), Type: api.Int} })
		c[at].Kids = rowOf(16, func(i int) api.KidDef {
			return api.KidDef{Role: fmt.Sprint("k", at, "_", i), Concept: "C127", Min: 1, Max: 1}
		})
		c[at].Refs = rowOf(16, func(i int) api.RefDef {
			return api.RefDef{Role: fmt.Sprint("r", at, "_", i), Concept: "C127", Need: true}
		})
	}
	return []api.Language{{Name: "a", Version: 1, Concepts: c}}
}

// P6.1, P0.1: as many concepts, one above the other, and as many parts, as may be.
func TestAllParts(t *testing.T) {
	table := tableOf(t, chain()...)
	m := modelOf(3, api.Node{ID: 1, Concept: "C0"}, api.Node{ID: 2, Concept: "C1"})
	var want []api.Mark
	missing := func(id, at int, letter string, e api.Errno) {
		for i := range 16 {
			want = append(want, api.Mark{Node: id, Name: fmt.Sprint(letter, at, "_", i), Err: e})
		}
	}
	missing(1, 127, "k", api.ErrHole)
	missing(1, 0, "k", api.ErrHole)
	missing(1, 127, "r", api.ErrNeed)
	missing(1, 0, "r", api.ErrNeed)
	missing(2, 127, "k", api.ErrHole)
	missing(2, 127, "r", api.ErrNeed)
	asks(t, "all parts", table, m, want)
}

// P6.1, P6.4, P0.1: as many nodes as may be, with all parts that may be, are told of, and soon.
func TestManyNodes(t *testing.T) {
	table := tableOf(t, chain()...)
	ids := rowOf(4096, func(i int) int { return i + 1 })
	flat := modelOf(4097, rowOf(4096, func(i int) api.Node {
		return api.Node{
			ID: i + 1, Concept: "C0", Parent: 1, Role: "k0_3",
			Props: []api.Prop{{Name: "p0_15", Value: "5"}, {Name: "p0_8", Value: "x"}},
			Refs:  []api.Ref{{Role: "r0_15", Target: i + 1}, {Role: "r127_15", Target: 4096 - i}},
		}
	})...)
	flat.Nodes[0].Parent, flat.Nodes[0].Role, flat.Nodes[0].Kids = 0, "", ids[1:]
	whole, e := conform.Marks(table, flat)
	if e != api.OK || len(whole) != 4096*(1+32+30)-1+4094 {
		t.Fatalf("%d marks, %d", len(whole), e)
	}
	for _, touched := range [][]int{nil, {1}, ids, append(slices.Repeat(ids, 100), -1, 0, 4097)} {
		again, e := conform.Again(table, flat, whole, touched)
		if e != api.OK || !slices.Equal(again, whole) {
			t.Errorf("%d touched: %d marks, %d", len(touched), len(again), e)
		}
	}
	// The node itself, and its parent, which is the one that has a reference to it.
	if l, e := conform.Again(table, flat, nil, []int{4096}); e != api.OK || len(l) != 63+62+4094 {
		t.Errorf("4096 touched: %d marks, %d", len(l), e)
	}
	if conform.Stands(whole) {
		t.Error("stands")
	}
	flat.Nodes[0].Concept = "?Kept"
	if l, e := conform.Marks(table, flat); e != api.OK || len(l) > 0 {
		t.Errorf("all wrapped: %d marks, %d", len(l), e)
	}
	flat.Nodes = append(flat.Nodes, api.Node{ID: 4097, Concept: "C0"})
	flat.Next++
	if l, e := conform.Marks(table, flat); e != api.ErrModel || len(l) > 0 {
		t.Errorf("4097 nodes: %d marks, %d", len(l), e)
	}
}

// P6.1, P6.4: as deep as may be: 64 nodes one below the other, many times; the topmost and the lowest ones of each wrapped.
func TestDeep(t *testing.T) {
	table := tableOf(t, example())
	m := modelOf(4097, rowOf(4096, func(i int) api.Node {
		n := api.Node{ID: i + 1, Concept: "Num", Parent: i, Role: "item", Kids: []int{i + 2}}
		if i%64 == 0 {
			n.Parent, n.Role = 0, ""
		}
		if i%64 == 63 {
			n.Kids = nil
		}
		return n
	})...)
	l, e := conform.Marks(table, m)
	if e != api.OK || len(l) != 64*63 {
		t.Fatalf("%d marks, %d", len(l), e)
	}
	for i := range 64 {
		// One wrapper a row, at another depth each.
		m.Nodes[64*i+i].Concept = "?Kept"
		old, _ := conform.Marks(table, m)
		l = slices.DeleteFunc(l, func(x api.Mark) bool { return x.Node >= 64*i+i+1 && x.Node <= 64*i+64 })
		if !slices.Equal(old, l) {
			t.Fatalf("%d wrapped: %v", i+1, old)
		}
		if again, e := conform.Again(table, m, nil, []int{64*i + i + 1}); e != api.OK || len(again) != min(i, 1) {
			t.Fatalf("%d wrapped, again: %v, %d", i+1, again, e)
		}
	}
}

// P0.1: lists that have no limit of their own.
func TestLongLists(t *testing.T) {
	table := tableOf(t, example())
	m := modelOf(1<<20+1, api.Node{ID: 1 << 20, Concept: "Num"})
	for i := range 1 << 17 {
		m.Nodes[0].Props = append(m.Nodes[0].Props, api.Prop{Name: fmt.Sprintf("p%07d", i), Value: "5"})
		m.Nodes[0].Refs = append(m.Nodes[0].Refs, api.Ref{Role: fmt.Sprintf("r%07d", i), Target: 1 + i%(1<<20)})
	}
	l, e := conform.At(table, m, 1<<20)
	if e != api.OK || len(l) != 1<<18 || l[1<<18-1] != (api.Mark{Node: 1 << 20, Name: "r0131071", Err: api.ErrRef}) {
		t.Errorf("%d marks, %d", len(l), e)
	}
	old := rowOf(1<<20, func(i int) api.Mark { return api.Mark{Node: i + 2, Name: "a", Err: api.ErrHole} })
	touched := rowOf(1<<20, func(i int) int { return 3*i - 1<<20 })
	// The node's ID is none of those touched, but that of one of its targets is.
	if again, e := conform.Again(table, m, old, touched); e != api.OK || !slices.Equal(again, l) {
		t.Errorf("again: %d marks, %d", len(again), e)
	}
	if again, e := conform.Again(table, m, old, []int{1<<20 - 1}); e != api.OK || !slices.Equal(again, old[1<<20-2:1<<20-1]) {
		t.Errorf("again of nothing near: %d marks, %d", len(again), e)
	}
	if !conform.Stands(old) || conform.Stands(append(old, api.Mark{Err: api.ErrProp})) {
		t.Error("stands")
	}
}

// P6.1: the longest words and values, and one byte more.
func TestLongWords(t *testing.T) {
	long := strings.Repeat("a", 32)
	l := example()
	l.Concepts = append(l.Concepts, api.Concept{Name: long, Props: []api.PropDef{{Name: long, Type: api.Text}}, Kids: []api.KidDef{{Role: long, Concept: long, Max: 1}}, Refs: []api.RefDef{{Role: long, Concept: long}}})
	table := tableOf(t, l)
	m := modelOf(3,
		api.Node{ID: 1, Concept: long, Props: []api.Prop{{Name: long, Value: strings.Repeat("\x00", 4096)}}, Kids: []int{2}, Refs: []api.Ref{{Role: long, Target: 2}}},
		api.Node{ID: 2, Concept: long, Parent: 1, Role: long},
	)
	asks(t, "long words", table, m, nil)
	own := "?" + long
	m.Nodes[1].Concept, m.Nodes[1].Role = own, own
	asks(t, "long words of the workbench's own", table, m, []api.Mark{{Node: 1, Name: own, Err: api.ErrRole}, {Node: 1, Name: long, Err: api.ErrRef}, {Node: 2, Name: own, Err: api.ErrConcept}})
	m.Nodes[0].Props[0].Value += "\x00"
	if l, e := conform.Marks(table, m); e != api.ErrModel || len(l) > 0 {
		t.Errorf("a value of 4097 bytes: %v, %d", l, e)
	}
}
