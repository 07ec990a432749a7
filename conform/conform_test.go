package conform_test

import (
	"math"
	"slices"
	"strings"
	"testing"

	"topiary/api"
	"topiary/conform"
	"topiary/meta"
)

func tableOf(t *testing.T, ls ...api.Language) *meta.Table {
	t.Helper()
	table, f := meta.New(ls)
	if f.Err != api.OK {
		t.Fatal(f)
	}
	return table
}

// example is the language of the chapter's examples.
func example() api.Language {
	return api.Language{Name: "a", Version: 1, Concepts: []api.Concept{
		{Name: "List", Kids: []api.KidDef{{Role: "item", Concept: "Item"}}, Props: []api.PropDef{{Name: "name", Type: api.Name}}},
		{Name: "Item", Abstract: true},
		{Name: "Num", Super: "Item", Props: []api.PropDef{{Name: "v", Type: api.Int}}},
		{Name: "Sum", Super: "Item", Kids: []api.KidDef{{Role: "arg", Concept: "Item", Min: 1, Max: 1}}, Refs: []api.RefDef{{Role: "to", Concept: "Num", Need: true}}},
	}}
}

// sample is the model of the chapter's examples.
func sample() api.Model {
	return modelOf(4,
		api.Node{ID: 1, Concept: "List", Kids: []int{2, 3}},
		api.Node{ID: 2, Concept: "Num", Parent: 1, Role: "item", Props: []api.Prop{{Name: "v", Value: "5"}}},
		api.Node{ID: 3, Concept: "Sum", Parent: 1, Role: "item"},
	)
}

func modelOf(next int, nodes ...api.Node) api.Model { return api.Model{Next: next, Nodes: nodes} }

// allIDs are those of a model, and some that are none of it.
func allIDs(m api.Model) []int {
	ids := []int{0, -1, m.Next, m.Next + 1, math.MinInt, math.MaxInt}
	for _, n := range m.Nodes {
		ids = append(ids, n.ID, n.ID-1)
	}
	return ids
}

// asks holds all that is told of a right model over a table against the marks that it is to have: of all of it, node by node, and again of all.
func asks(t *testing.T, what string, table *meta.Table, m api.Model, want []api.Mark) {
	t.Helper()
	if l, e := conform.Marks(table, m); e != api.OK || !slices.Equal(l, want) {
		t.Errorf("%s: %v, %d, not %v", what, l, e, want)
	}
	for _, id := range allIDs(m) {
		l, e := conform.At(table, m, id)
		if !slices.ContainsFunc(m.Nodes, func(n api.Node) bool { return n.ID == id }) {
			if e != api.ErrNoNode || len(l) > 0 {
				t.Errorf("%s: at %d %v, %d", what, id, l, e)
			}
			continue
		}
		of := slices.DeleteFunc(slices.Clone(want), func(x api.Mark) bool { return x.Node != id })
		if e != api.OK || !slices.Equal(l, of) {
			t.Errorf("%s: at %d %v, %d, not %v", what, id, l, e, of)
		}
	}
	wrong := []api.Mark{{Node: 1, Name: "x", Err: api.ErrMany}, {Node: 2, Name: "x", Err: api.ErrMany}, {Node: 9999, Name: "x", Err: api.ErrMany}}
	if l, e := conform.Again(table, m, wrong, allIDs(m)); e != api.OK || !slices.Equal(l, want) {
		t.Errorf("%s: again %v, %d, not %v", what, l, e, want)
	}
	if l, e := conform.Again(table, m, want, nil); e != api.OK || !slices.Equal(l, want) {
		t.Errorf("%s: again of nothing %v, %d, not %v", what, l, e, want)
	}
}

// P6.1, P6.2, P6.4: the chapter's examples.
func TestExamples(t *testing.T) {
	table := tableOf(t, example())
	hole, need := api.Mark{Node: 3, Name: "arg", Err: api.ErrHole}, api.Mark{Node: 3, Name: "to", Err: api.ErrNeed}
	m := sample()
	asks(t, "M", table, m, []api.Mark{hole, need})
	m.Nodes[0].Props, m.Nodes[1].Props = []api.Prop{{Name: "name", Value: "a b"}}, []api.Prop{{Name: "v", Value: "x"}}
	asks(t, "wrong properties", table, m, []api.Mark{{Node: 1, Name: "name", Err: api.ErrProp}, {Node: 2, Name: "v", Err: api.ErrProp}, hole, need})
	m = sample()
	m.Next, m.Nodes[2].Kids = 6, []int{4, 5}
	m.Nodes = append(m.Nodes, api.Node{ID: 4, Concept: "Item", Parent: 3, Role: "arg"}, api.Node{ID: 5, Concept: "Num", Parent: 3, Role: "arg"})
	abstract := api.Mark{Node: 4, Name: "Item", Err: api.ErrAbstract}
	asks(t, "two args", table, m, []api.Mark{{Node: 3, Name: "arg", Err: api.ErrMany}, need, abstract})
	m.Nodes[4].Concept = "List"
	asks(t, "a List for an arg", table, m, []api.Mark{{Node: 3, Name: "arg", Err: api.ErrRole}, need, abstract})
	m = sample()
	m.Nodes[2].Refs = []api.Ref{{Role: "to", Target: 1}}
	asks(t, "to aimed at 1", table, m, []api.Mark{hole, {Node: 3, Name: "to", Err: api.ErrRef}})
	m.Nodes[2].Refs[0].Target = 2
	asks(t, "to aimed at 2", table, m, []api.Mark{hole})
	m.Nodes[0].Kids = []int{3}
	m.Nodes = slices.Delete(m.Nodes, 1, 2)
	asks(t, "2 removed", table, m, []api.Mark{hole, {Node: 3, Name: "to", Err: api.ErrDangling}})
	m = sample()
	m.Next, m.Nodes[0].Kids = 6, []int{2, 3, 4}
	m.Nodes[1].Props = []api.Prop{{Name: "odd"}, {Name: "v", Value: "5"}}
	m.Nodes = append(m.Nodes, api.Node{ID: 4, Concept: "Num", Parent: 1, Role: "odd"}, api.Node{ID: 5, Concept: "Odd"})
	asks(t, "odd ones", table, m, []api.Mark{{Node: 1, Name: "odd", Err: api.ErrRole}, {Node: 2, Name: "odd", Err: api.ErrProp}, hole, need, {Node: 5, Name: "Odd", Err: api.ErrConcept}})
	m = sample()
	m.Next = 5
	m.Nodes[2] = api.Node{ID: 3, Concept: "?Kept", Parent: 1, Role: "?kept", Kids: []int{4}}
	m.Nodes = append(m.Nodes, api.Node{ID: 4, Concept: "Odd", Parent: 3, Role: "arg"})
	asks(t, "a wrapper", table, m, nil)
}

// wide is a language in which a concept has parts of all kinds, some of them of what is above it.
func wide() []api.Language {
	return []api.Language{
		{Name: "b", Version: 1, Concepts: []api.Concept{
			{
				Name: "Low", Super: "Top",
				Props: []api.PropDef{{Name: "int", Type: api.Int}, {Name: "bool", Type: api.Bool}},
				Kids:  []api.KidDef{{Role: "one", Concept: "Leaf", Max: 1}, {Role: "both", Concept: "Leaf", Min: 1, Max: 1}},
				Refs:  []api.RefDef{{Role: "at", Concept: "Top"}, {Role: "own", Concept: "Low", Need: true}},
			},
		}},
		{Name: "a", Version: 1, Concepts: []api.Concept{
			{Name: "Leaf", Super: "Any"},
			{
				Name: "Top", Super: "Any", Abstract: true,
				Props: []api.PropDef{{Name: "text", Type: api.Text}, {Name: "name", Type: api.Name}},
				Kids:  []api.KidDef{{Role: "some", Concept: "Any"}, {Role: "least", Concept: "Top", Min: 1}},
				Refs:  []api.RefDef{{Role: "to", Concept: "Leaf", Need: true}},
			},
			{Name: "Any"},
		}},
	}
}

// sound is a model over wide that has nearly all that may be there, and one mark.
func sound() api.Model {
	all := func(to, own int) []api.Ref {
		return []api.Ref{{Role: "own", Target: own}, {Role: "to", Target: to}}
	}
	return modelOf(9,
		api.Node{ID: 1, Concept: "Low", Kids: []int{3, 2, 5, 4, 6}, Refs: all(3, 1)},
		api.Node{ID: 2, Concept: "Low", Parent: 1, Role: "least", Kids: []int{7, 8}, Refs: all(4, 2)},
		api.Node{ID: 3, Concept: "Leaf", Parent: 1, Role: "both"},
		api.Node{ID: 4, Concept: "Leaf", Parent: 1, Role: "some"},
		api.Node{ID: 5, Concept: "Any", Parent: 1, Role: "some"},
		api.Node{ID: 6, Concept: "?Kept", Parent: 1, Role: "?kept"},
		api.Node{ID: 7, Concept: "Leaf", Parent: 2, Role: "both"},
		api.Node{ID: 8, Concept: "?Kept", Parent: 2, Role: "least"},
	)
}

// wrapper is the one mark of the model sound: a wrapper, in a role of a language's own, is none of that one's concepts.
var wrapper = api.Mark{Node: 2, Name: "least", Err: api.ErrRole}

// told are marks at the node 1, and the one of the model sound.
func told(l ...any) []api.Mark {
	var out []api.Mark
	for i := 0; i < len(l); i += 2 {
		out = append(out, api.Mark{Node: 1, Name: l[i].(string), Err: l[i+1].(api.Errno)})
	}
	return append(out, wrapper)
}

// P6.1: each look at a node by itself, at its edges.
func TestLooks(t *testing.T) {
	table := tableOf(t, wide()...)
	prop := func(name, value string) func(n []api.Node) {
		return func(n []api.Node) { n[0].Props = []api.Prop{{Name: name, Value: value}} }
	}
	ref := func(role string, target int) func(n []api.Node) {
		return func(n []api.Node) { n[0].Refs = append([]api.Ref{{Role: role, Target: target}}, n[0].Refs...) }
	}
	for _, c := range []struct {
		what   string
		change func(n []api.Node)
		want   []api.Mark
	}{
		{"as it is", func(n []api.Node) {}, told()},
		{"a name", prop("name", "a"), told()},
		{"no name", prop("name", "?a"), told("name", api.ErrProp)},
		{"a long name", prop("name", strings.Repeat("a", 33)), told("name", api.ErrProp)},
		{"a text", prop("text", strings.Repeat("\xff", 4096)), told()},
		{"an int", prop("int", "-9223372036854775808"), told()},
		{"an int past the end", prop("int", "9223372036854775808"), told("int", api.ErrProp)},
		{"an int with a nought ahead", prop("int", "05"), told("int", api.ErrProp)},
		{"an empty int", prop("int", ""), told("int", api.ErrProp)},
		{"a bool", prop("bool", "false"), told()},
		{"no bool", prop("bool", "no"), told("bool", api.ErrProp)},
		{"a property called as a kid's role", prop("some", ""), told("some", api.ErrProp)},
		{"a property called as a reference", prop("to", ""), told("to", api.ErrProp)},
		{"a property of the workbench's own", prop("?kept", ""), told("?kept", api.ErrProp)},
		{"a property in other letters", prop("Text", ""), told("Text", api.ErrProp)},
		{"a kid that is above the concept", func(n []api.Node) { n[2].Concept = "Any"; n[0].Refs[1].Target = 4 }, told("both", api.ErrRole)},
		{"a kid that is beside the concept", func(n []api.Node) {
			n[6].Concept = "Low"
			n[6].Parent = 1
			n[6].Role = "one"
			n[0].Kids = append(n[0].Kids, 7)
			n[1].Kids = []int{8}
		},
			[]api.Mark{{Node: 1, Name: "one", Err: api.ErrRole}, wrapper, {Node: 2, Name: "both", Err: api.ErrHole}, {Node: 7, Name: "least", Err: api.ErrHole}, {Node: 7, Name: "both", Err: api.ErrHole}, {Node: 7, Name: "to", Err: api.ErrNeed}, {Node: 7, Name: "own", Err: api.ErrNeed}}},
		{"a kid in a role that isn't there", func(n []api.Node) { n[4].Role = "odd" }, told("odd", api.ErrRole)},
		{"a kid in a role that is a property's name", func(n []api.Node) { n[4].Role = "text" }, told("text", api.ErrRole)},
		{"a kid in a role of the workbench's own", func(n []api.Node) { n[4].Role = "?Kept" }, told("?Kept", api.ErrRole)},
		{"a kid that nobody wrapped, where wrappers are", func(n []api.Node) { n[4].Role = "?kept" }, told()},
		{"a kid of no concept, where wrappers are", func(n []api.Node) { n[4].Role, n[4].Concept = "?kept", "Odd" }, append(told(), api.Mark{Node: 5, Name: "Odd", Err: api.ErrConcept})},
		{"two where wrappers are", func(n []api.Node) { n[3].Role, n[4].Role = "?kept", "?kept" }, told()},
		{"two wrappers, where others are", func(n []api.Node) { n[4].Concept, n[5].Role = "?Kept", "some" }, told("some", api.ErrRole, "some", api.ErrRole)},
		{"two where one is, right ones", func(n []api.Node) { n[3].Role = "both" }, told("both", api.ErrMany)},
		{"three where one is, right ones", func(n []api.Node) { n[3].Role, n[4].Role, n[4].Concept = "both", "both", "Leaf" }, told("both", api.ErrMany, "both", api.ErrMany)},
		{"two where one is, the second wrong", func(n []api.Node) { n[4].Role = "both" }, told("both", api.ErrRole)},
		{"two where one is, the first wrong", func(n []api.Node) { n[2].Concept, n[3].Role, n[0].Refs[1].Target = "Any", "both", 4 }, told("both", api.ErrRole, "both", api.ErrMany)},
		{"two where one may be", func(n []api.Node) { n[3].Role, n[4].Role, n[4].Concept = "one", "one", "Leaf" }, told("one", api.ErrMany)},
		{"one each, in two such roles", func(n []api.Node) { n[3].Role = "one" }, told()},
		{"a hole", func(n []api.Node) { n[2].Role = "some" }, told("both", api.ErrHole)},
		{"no hole, as a wrong one is there", func(n []api.Node) { n[1].Role, n[4].Role = "some", "least" }, told("least", api.ErrRole)},
		{"no hole, as a wrapper is there", func(n []api.Node) { n[1].Role, n[5].Role = "some", "least" }, told("least", api.ErrRole)},
		{"two holes", func(n []api.Node) { n[1].Role, n[2].Role = "some", "one" }, told("least", api.ErrHole, "both", api.ErrHole)},
		{"a reference more", ref("at", 2), told()},
		{"a reference to itself", ref("at", 1), told()},
		{"a reference beside the concept", ref("at", 4), told("at", api.ErrRef)},
		{"a reference above the concept", ref("at", 5), told("at", api.ErrRef)},
		{"a reference to a wrapper", ref("at", 6), told("at", api.ErrRef)},
		{"a reference in a role that isn't there", ref("odd", 1), told("odd", api.ErrRef)},
		{"a reference in a kid's role", ref("both", 3), told("both", api.ErrRef)},
		{"a reference of the workbench's own", ref("?kept", 3), told("?kept", api.ErrRef)},
		{"a reference that is needed, wrong", func(n []api.Node) { n[0].Refs[0].Target = 3 }, told("own", api.ErrRef)},
		{"a reference that is needed, not there", func(n []api.Node) { n[0].Refs = n[0].Refs[1:] }, told("own", api.ErrNeed)},
		{"no references", func(n []api.Node) { n[0].Refs = nil }, told("to", api.ErrNeed, "own", api.ErrNeed)},
		{"an abstract concept, with all it has", func(n []api.Node) {
			n[0].Concept, n[0].Refs, n[2].Role = "Top", n[0].Refs[1:], "least"
			n[2].Concept = "Low"
		},
			[]api.Mark{{Node: 1, Name: "Top", Err: api.ErrAbstract}, {Node: 1, Name: "to", Err: api.ErrRef}, {Node: 3, Name: "least", Err: api.ErrHole}, {Node: 3, Name: "both", Err: api.ErrHole}, {Node: 3, Name: "to", Err: api.ErrNeed}, {Node: 3, Name: "own", Err: api.ErrNeed}, wrapper}},
		{"a concept without parts", func(n []api.Node) { n[0].Concept = "Any" },
			told("both", api.ErrRole, "least", api.ErrRole, "some", api.ErrRole, "some", api.ErrRole, "own", api.ErrRef, "to", api.ErrRef)},
		{"no concept", func(n []api.Node) { n[0].Concept = "any" }, told("any", api.ErrConcept)},
		{"a concept of the workbench's own that is no wrapper", func(n []api.Node) { n[0].Concept = "?kept" }, told("?kept", api.ErrConcept)},
		{"another one of the workbench's own", func(n []api.Node) { n[0].Concept = "?Keptt" }, told("?Keptt", api.ErrConcept)},
	} {
		m := sound()
		c.change(m.Nodes)
		if got := (slow{wide(), m}).marks(); !slices.Equal(got, c.want) {
			t.Errorf("%s: by the slow one %v, not %v", c.what, got, c.want)
		}
		asks(t, c.what, table, m, c.want)
	}
}

// P6.1: a reference to a node that was, and to one below a wrapper.
func TestTargets(t *testing.T) {
	table := tableOf(t, example())
	m := modelOf(9,
		api.Node{ID: 2, Concept: "Num", Parent: 7, Role: "odd"},
		api.Node{ID: 3, Concept: "Sum", Kids: []int{5}},
		api.Node{ID: 5, Concept: "?Kept", Parent: 3, Role: "?kept", Kids: []int{7}},
		api.Node{ID: 7, Concept: "Odd", Parent: 5, Role: "arg", Kids: []int{2}},
	)
	hole := api.Mark{Node: 3, Name: "arg", Err: api.ErrHole}
	asks(t, "no target", table, m, []api.Mark{hole, {Node: 3, Name: "to", Err: api.ErrNeed}})
	for target, want := range map[int][]api.Mark{
		1: {hole, {Node: 3, Name: "to", Err: api.ErrDangling}},
		2: {hole},
		3: {hole, {Node: 3, Name: "to", Err: api.ErrRef}},
		4: {hole, {Node: 3, Name: "to", Err: api.ErrDangling}},
		5: {hole, {Node: 3, Name: "to", Err: api.ErrRef}},
		7: {hole, {Node: 3, Name: "to", Err: api.ErrRef}},
		8: {hole, {Node: 3, Name: "to", Err: api.ErrDangling}},
	} {
		m.Nodes[1].Refs = []api.Ref{{Role: "to", Target: target}}
		asks(t, "a target", table, m, want)
		m.Nodes[1].Refs[0].Role = "odd"
		asks(t, "a target in no role", table, m, []api.Mark{hole, {Node: 3, Name: "odd", Err: api.ErrRef}, {Node: 3, Name: "to", Err: api.ErrNeed}})
	}
}

// all is a node at which each of the looks tells something, and its kids.
func all(id int, more ...api.Node) []api.Node {
	return append(more, api.Node{
		ID: id, Concept: "Top", Kids: []int{id + 3, id + 1, id + 4, id + 2},
		Props: []api.Prop{{Name: "name", Value: "9"}, {Name: "odd"}, {Name: "text"}},
		Refs:  []api.Ref{{Role: "odd", Target: id}},
	},
		api.Node{ID: id + 1, Concept: "Any", Parent: id, Role: "zodd"},
		api.Node{ID: id + 2, Concept: "Any", Parent: id, Role: "odd"},
		api.Node{ID: id + 3, Concept: "Odd", Parent: id, Role: "some"},
		api.Node{ID: id + 4, Concept: "?Kept", Parent: id, Role: "?kept"},
	)
}

// allTold are the marks of what all makes.
func allTold(id int) []api.Mark {
	return []api.Mark{
		{Node: id, Name: "Top", Err: api.ErrAbstract},
		{Node: id, Name: "name", Err: api.ErrProp}, {Node: id, Name: "odd", Err: api.ErrProp},
		{Node: id, Name: "some", Err: api.ErrRole}, {Node: id, Name: "zodd", Err: api.ErrRole}, {Node: id, Name: "odd", Err: api.ErrRole},
		{Node: id, Name: "least", Err: api.ErrHole},
		{Node: id, Name: "odd", Err: api.ErrRef},
		{Node: id, Name: "to", Err: api.ErrNeed},
		{Node: id + 3, Name: "Odd", Err: api.ErrConcept},
	}
}

// P6.1: the order of the marks at a node, and of the nodes: kids as they stand, roots by rising IDs.
func TestOrder(t *testing.T) {
	table := tableOf(t, wide()...)
	m := modelOf(20, all(3)...)
	m.Nodes = all(8, m.Nodes...)
	asks(t, "two roots", table, m, append(allTold(3), allTold(8)...))
	// The parts of what is above a concept stand ahead of its own, whatever their names; a node's own stand as they do.
	m = modelOf(3, api.Node{ID: 2, Concept: "Low", Props: []api.Prop{{Name: "bool"}, {Name: "int"}, {Name: "name"}}, Refs: []api.Ref{{Role: "at", Target: 1}, {Role: "own", Target: 1}, {Role: "to", Target: 1}}})
	asks(t, "props and refs", table, m, []api.Mark{
		{Node: 2, Name: "bool", Err: api.ErrProp}, {Node: 2, Name: "int", Err: api.ErrProp}, {Node: 2, Name: "name", Err: api.ErrProp},
		{Node: 2, Name: "least", Err: api.ErrHole}, {Node: 2, Name: "both", Err: api.ErrHole},
		{Node: 2, Name: "at", Err: api.ErrDangling}, {Node: 2, Name: "own", Err: api.ErrDangling}, {Node: 2, Name: "to", Err: api.ErrDangling},
	})
	m.Nodes[0].Props, m.Nodes[0].Refs = nil, nil
	asks(t, "definitions", table, m, []api.Mark{{Node: 2, Name: "least", Err: api.ErrHole}, {Node: 2, Name: "both", Err: api.ErrHole}, {Node: 2, Name: "to", Err: api.ErrNeed}, {Node: 2, Name: "own", Err: api.ErrNeed}})
}

// P6.1, P6.6: what is at and below a wrapper, at any depth, and a wrapper that is a root; what stands beside it is told.
func TestWrappers(t *testing.T) {
	table := tableOf(t, wide()...)
	m := modelOf(20, all(3, api.Node{ID: 1, Concept: "Any", Kids: []int{2}}, api.Node{ID: 2, Concept: "Any", Parent: 1, Role: "odd", Kids: []int{3}})...)
	m.Nodes[2].Parent, m.Nodes[2].Role = 2, "odd"
	m.Nodes = all(8, m.Nodes...)
	odd := []api.Mark{{Node: 1, Name: "odd", Err: api.ErrRole}, {Node: 2, Name: "odd", Err: api.ErrRole}}
	asks(t, "no wrapper", table, m, slices.Concat(odd, allTold(3), allTold(8)))
	m.Nodes[2].Concept = "?Kept"
	asks(t, "3 a wrapper", table, m, append(odd, allTold(8)...))
	m.Nodes[2].Role = "?kept"
	asks(t, "3 a wrapper in its role", table, m, append(odd[:1:1], allTold(8)...))
	m.Nodes[2].Role = "odd"
	m.Nodes[2].Concept, m.Nodes[1].Concept = "Top", "?Kept"
	asks(t, "2 a wrapper", table, m, append(odd[:1:1], allTold(8)...))
	m.Nodes[1].Concept, m.Nodes[0].Concept = "Any", "?Kept"
	asks(t, "1 a wrapper", table, m, allTold(8))
	m.Nodes[7].Concept = "?Kept"
	asks(t, "both roots wrappers", table, m, nil)
}

// P6.1, P6.2, P6.4: a table of no languages knows no concept.
func TestNoLanguages(t *testing.T) {
	m := sample()
	m.Next, m.Nodes[0].Kids = 6, []int{2, 4, 3}
	m.Nodes = append(m.Nodes, api.Node{ID: 4, Concept: "?Kept", Parent: 1, Role: "item", Kids: []int{5}}, api.Node{ID: 5, Concept: "Odd", Parent: 4, Role: "item"})
	want := []api.Mark{{Node: 1, Name: "List", Err: api.ErrConcept}, {Node: 2, Name: "Num", Err: api.ErrConcept}, {Node: 3, Name: "Sum", Err: api.ErrConcept}}
	for _, table := range []*meta.Table{nil, {}, new(meta.Table), tableOf(t)} {
		asks(t, "no languages", table, m, want)
		asks(t, "no nodes", table, modelOf(1), nil)
		asks(t, "no nodes any more", table, modelOf(7), nil)
	}
}

// wrongModels are not right, each in one way.
func wrongModels() []api.Model {
	var out []api.Model
	for _, change := range []func(m *api.Model){
		func(m *api.Model) { *m = api.Model{} },
		func(m *api.Model) { m.Next = 3 },
		func(m *api.Model) { m.Next = 1<<20 + 2 },
		func(m *api.Model) { m.Nodes[0].ID = 0 },
		func(m *api.Model) { m.Nodes[0], m.Nodes[1] = m.Nodes[1], m.Nodes[0] },
		func(m *api.Model) { m.Nodes[1].Concept = "9" },
		func(m *api.Model) { m.Nodes[1].Concept = "" },
		func(m *api.Model) { m.Nodes[1].Role = "" },
		func(m *api.Model) { m.Nodes[0].Role = "item" },
		func(m *api.Model) { m.Nodes[1].Props = append(m.Nodes[1].Props, m.Nodes[1].Props[0]) },
		func(m *api.Model) { m.Nodes[1].Props[0].Value = strings.Repeat("a", 4097) },
		func(m *api.Model) { m.Nodes[2].Refs = []api.Ref{{Role: "to", Target: 4}} },
		func(m *api.Model) { m.Nodes[2].Refs = []api.Ref{{Role: "to", Target: 0}} },
		func(m *api.Model) { m.Nodes[0].Kids = []int{2, 3, 2} },
		func(m *api.Model) { m.Nodes[0].Kids = []int{2} },
		func(m *api.Model) { m.Nodes[0].Kids = []int{2, 3, 9} },
		func(m *api.Model) { m.Nodes[1].Parent = 9 },
		func(m *api.Model) { m.Nodes[1].Parent = 2; m.Nodes[1].Kids = []int{2}; m.Nodes[0].Kids = []int{3} },
		func(m *api.Model) { m.Nodes[0].Parent, m.Nodes[0].Role, m.Nodes[1].Kids = 2, "item", []int{1} },
	} {
		m := sample()
		change(&m)
		out = append(out, m)
	}
	return out
}

// P6.1, P6.2, P6.4: a model that isn't right is told so, whatever else is wrong, and nothing beside.
func TestWrongModels(t *testing.T) {
	old := []api.Mark{{Node: 1, Name: "x", Err: api.ErrProp}}
	for i, m := range wrongModels() {
		for _, table := range []*meta.Table{nil, {}, tableOf(t, example())} {
			if l, e := conform.Marks(table, m); e != api.ErrModel || len(l) > 0 {
				t.Errorf("%d: %v, %d", i, l, e)
			}
			for _, id := range []int{-1, 0, 1, 2, 9} {
				if l, e := conform.At(table, m, id); e != api.ErrModel || len(l) > 0 {
					t.Errorf("%d: at %d %v, %d", i, id, l, e)
				}
			}
			for _, touched := range [][]int{nil, {1}, {9}} {
				if l, e := conform.Again(table, m, old, touched); e != api.ErrModel || len(l) > 0 {
					t.Errorf("%d: again %v, %d", i, l, e)
				}
			}
		}
	}
}

// P6.3: what is missing may come still; all else may not be.
func TestStands(t *testing.T) {
	for e := api.Errno(-3); e < 320; e++ {
		missing := e == 63 || e == 66 || e == 67
		if conform.Stands([]api.Mark{{Node: 1, Name: "a", Err: e}}) != missing {
			t.Errorf("a mark %d", e)
		}
		for at := range 4 {
			l := []api.Mark{{Err: api.ErrHole}, {Err: api.ErrDangling}, {Err: api.ErrNeed}}
			if conform.Stands(slices.Insert(l, at, api.Mark{Err: e})) != missing {
				t.Errorf("a mark %d, the %d of four", e, at)
			}
		}
	}
	for _, l := range [][]api.Mark{nil, {}, {{}}, {{Node: -1, Err: api.ErrNeed}}} {
		if conform.Stands(l) != (len(l) == 0 || l[0].Err != api.OK) {
			t.Errorf("%v", l)
		}
	}
}

// grove is a model in which all are Nums: 1 (its kids 2, 3; of 2 the kids 4, 5; of 4 the kid 6) and 7 (its kid 8); 9 to 11 were. Those with a reference: 3 to 5, 8 to 9, 6 to 11 and 1.
func grove() api.Model {
	node := func(id, parent int, kids []int, refs ...api.Ref) api.Node {
		n := api.Node{ID: id, Concept: "Num", Parent: parent, Kids: kids, Refs: refs}
		if parent > 0 {
			n.Role = "item"
		}
		return n
	}
	return modelOf(12,
		node(1, 0, []int{3, 2}), node(2, 1, []int{4, 5}), node(3, 1, nil, api.Ref{Role: "to", Target: 5}),
		node(4, 2, []int{6}), node(5, 2, nil), node(6, 4, nil, api.Ref{Role: "a", Target: 11}, api.Ref{Role: "b", Target: 1}),
		node(7, 0, []int{8}), node(8, 7, nil, api.Ref{Role: "to", Target: 9}),
	)
}

// P6.4: which nodes are near what was touched: those are looked at again, all others have what they had.
func TestNear(t *testing.T) {
	m := grove()
	order := []int{1, 3, 2, 4, 6, 5, 7, 8}
	var old []api.Mark
	for id := 12; id >= -1; id-- {
		// Two a node, in one order, and the nodes in none.
		old = append(old, api.Mark{Node: id, Name: "b", Err: 7}, api.Mark{Node: id, Name: "a", Err: 8})
	}
	for _, c := range []struct {
		touched, near []int
	}{
		{nil, nil},
		{[]int{}, nil},
		{[]int{1}, []int{1, 3, 2, 4, 6, 5}},
		{[]int{2}, []int{2, 1, 4, 6, 5}},
		{[]int{3}, []int{3, 1}},
		{[]int{4}, []int{4, 2, 6}},
		{[]int{5}, []int{5, 2, 3}},
		{[]int{6}, []int{6, 4}},
		{[]int{7}, []int{7, 8}},
		{[]int{8}, []int{8, 7}},
		{[]int{9}, []int{8}},
		{[]int{10}, nil},
		{[]int{11}, []int{6}},
		{[]int{12}, nil},
		{[]int{0}, nil},
		{[]int{-1, math.MinInt, math.MaxInt}, nil},
		{[]int{0, 9, 0, 9}, []int{8}},
		{[]int{6, 3, 6}, []int{6, 4, 3, 1}},
		{[]int{4, 5, 11}, []int{4, 2, 6, 5, 3}},
		{[]int{8, 7, 6, 5, 4, 3, 2, 1}, order},
	} {
		for _, table := range []*meta.Table{nil, tableOf(t, example())} {
			var want []api.Mark
			for _, id := range order {
				at, _ := conform.At(table, m, id)
				if !slices.Contains(c.near, id) {
					at = []api.Mark{{Node: id, Name: "b", Err: 7}, {Node: id, Name: "a", Err: 8}}
				}
				want = append(want, at...)
			}
			if l, e := conform.Again(table, m, old, c.touched); e != api.OK || !slices.Equal(l, want) {
				t.Errorf("touched %v: %v, %d, not %v", c.touched, l, e, want)
			}
		}
	}
	if l, e := conform.Again(nil, m, nil, []int{8}); e != api.OK || !slices.Equal(l, []api.Mark{{Node: 7, Name: "Num", Err: api.ErrConcept}, {Node: 8, Name: "Num", Err: api.ErrConcept}}) {
		t.Errorf("without old ones: %v, %d", l, e)
	}
}
