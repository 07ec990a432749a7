package arena_test

import (
	"math"
	"slices"
	"strings"
	"testing"

	"topiary/api"
	"topiary/arena"
)

// P2.1
func TestNew(t *testing.T) {
	if m := arena.New(); m.Next != 1 || len(m.Nodes) != 0 || arena.Check(m) != api.OK {
		t.Errorf("New: %v", m)
	}
}

// P2.1: lengths, the first byte and the further ones.
func TestWord(t *testing.T) {
	for n := range 70 {
		s := strings.Repeat("a", n)
		if arena.Word(s) != (1 <= n && n <= 32) || arena.Word("?"+s) != (1 <= n && n <= 32) {
			t.Errorf("%d bytes: %v, behind '?': %v", n, arena.Word(s), arena.Word("?"+s))
		}
	}
	for b := range 256 {
		c := string([]byte{byte(b)})
		for _, s := range []string{c, "a" + c, c + "a", "a" + c + "a", "?" + c, "?a" + c, "?" + c + "a", strings.Repeat("a", 31) + c, "?" + strings.Repeat("a", 31) + c} {
			if arena.Word(s) != isWord(s) {
				t.Errorf("Word(%q): %v", s, arena.Word(s))
			}
		}
	}
	for _, s := range []string{"", "?", "??", "??a", "a?", "a\n", "\u00e9", strings.Repeat("a", 1<<20)} {
		if arena.Word(s) {
			t.Errorf("Word(%.20q)", s)
		}
	}
}

// sample is a right model in which all is that a model may have: 1 (its kids in mixed roles 4, 2, 3), 4 (its kid 6), 7 (a root, its kid 8); 5 was removed.
func sample() api.Model {
	return api.Model{Next: 9, Nodes: []api.Node{
		{ID: 1, Concept: "List", Props: []api.Prop{{Name: "?own", Value: ""}, {Name: "name", Value: "l"}}, Kids: []int{4, 2, 3}},
		{ID: 2, Concept: "Num", Parent: 1, Role: "note", Refs: []api.Ref{{Role: "?a", Target: 5}, {Role: "to", Target: 8}}},
		{ID: 3, Concept: "Num", Parent: 1, Role: "item", Props: []api.Prop{{Name: "v", Value: "5"}}, Refs: []api.Ref{{Role: "to", Target: 3}}},
		{ID: 4, Concept: "?Kept", Parent: 1, Role: "item", Kids: []int{6}},
		{ID: 6, Concept: "Num", Parent: 4, Role: "?kept"},
		{ID: 7, Concept: "List", Kids: []int{8}, Refs: []api.Ref{{Role: "a", Target: 5}, {Role: "b", Target: 5}, {Role: "c", Target: 1}}},
		{ID: 8, Concept: "Num", Parent: 7, Role: "item"},
	}}
}

// P2.1: a model that isn't right is told so by every call, in each of the four ways.
func TestCheck(t *testing.T) {
	right, wrong := 0, 0
	for _, m := range append(twisted(), byHand()...) {
		is := isRight(m)
		if (arena.Check(m) == api.OK) != is || arena.Check(m) != api.OK && arena.Check(m) != api.ErrModel {
			t.Fatalf("Check(%v): %d", m, arena.Check(m))
		}
		if is {
			right++
			continue
		}
		wrong++
		refuseAll(t, m)
	}
	if right < 50 || wrong < 500 {
		t.Errorf("%d right models, %d wrong ones", right, wrong)
	}
}

// twisted are models that differ from the sample in a field, or in an element of a list.
func twisted() []api.Model {
	var out []api.Model
	with := func(change func(m *api.Model)) {
		m := sample()
		change(&m)
		out = append(out, m)
	}
	numbers := []int{-1, 0, 1, 2, 3, 4, 5, 6, 7, 8, 9, 10, 1 << 20, 1<<20 + 1, 1<<20 + 2, math.MinInt, math.MaxInt}
	words := []string{"", "?", "a", "?a", "??a", "Z9_", "to", "note", "9", "a b", strings.Repeat("a", 32), strings.Repeat("a", 33), "?" + strings.Repeat("a", 33)}
	for _, n := range numbers {
		with(func(m *api.Model) { m.Next = n })
	}
	for i, of := range sample().Nodes {
		for _, n := range numbers {
			with(func(m *api.Model) { m.Nodes[i].ID = n })
			with(func(m *api.Model) { m.Nodes[i].Parent = n })
			with(func(m *api.Model) { m.Nodes[i].Kids = append(m.Nodes[i].Kids, n) })
			with(func(m *api.Model) { m.Nodes[i].Refs = append(m.Nodes[i].Refs, api.Ref{Role: "z", Target: n}) })
			for k := range of.Kids {
				with(func(m *api.Model) { m.Nodes[i].Kids[k] = n })
			}
			for k := range of.Refs {
				with(func(m *api.Model) { m.Nodes[i].Refs[k].Target = n })
			}
		}
		for _, w := range words {
			with(func(m *api.Model) { m.Nodes[i].Concept = w })
			with(func(m *api.Model) { m.Nodes[i].Role = w })
			with(func(m *api.Model) { m.Nodes[i].Props = append(m.Nodes[i].Props, api.Prop{Name: w}) })
			with(func(m *api.Model) { m.Nodes[i].Refs = append(m.Nodes[i].Refs, api.Ref{Role: w, Target: 1}) })
			for k := range of.Props {
				with(func(m *api.Model) { m.Nodes[i].Props[k].Name = w })
				with(func(m *api.Model) { m.Nodes[i].Props = slices.Insert(m.Nodes[i].Props, k, of.Props[k]) })
			}
			for k := range of.Refs {
				with(func(m *api.Model) { m.Nodes[i].Refs[k].Role = w })
			}
		}
		for _, n := range []int{0, 4096, 4097} {
			with(func(m *api.Model) {
				m.Nodes[i].Props = append(m.Nodes[i].Props, api.Prop{Name: "w", Value: strings.Repeat("\x00", n)})
			})
		}
		with(func(m *api.Model) { m.Nodes = slices.Delete(m.Nodes, i, i+1) })
		with(func(m *api.Model) { m.Nodes = slices.Insert(m.Nodes, i, m.Nodes[i]) })
		with(func(m *api.Model) { m.Nodes[i].Kids = nil })
		with(func(m *api.Model) { slices.Reverse(m.Nodes[i].Kids) })
		with(func(m *api.Model) { slices.Reverse(m.Nodes[i].Props) })
		with(func(m *api.Model) { slices.Reverse(m.Nodes[i].Refs) })
		for k := range sample().Nodes {
			with(func(m *api.Model) { m.Nodes[i], m.Nodes[k] = m.Nodes[k], m.Nodes[i] })
			with(func(m *api.Model) { m.Nodes[i].Kids, m.Nodes[k].Kids = m.Nodes[k].Kids, m.Nodes[i].Kids })
			with(func(m *api.Model) { m.Nodes[i].Parent, m.Nodes[k].Parent = m.Nodes[k].Parent, m.Nodes[i].Parent })
		}
	}
	return out
}

// chain is a right model of one root, which is so many nodes deep.
func chain(n int) api.Model {
	m := api.Model{Next: n + 1}
	for id := 1; id <= n; id++ {
		node := api.Node{ID: id, Concept: "C", Parent: id - 1, Kids: []int{id + 1}}
		if id > 1 {
			node.Role = "r"
		}
		m.Nodes = append(m.Nodes, node)
	}
	m.Nodes[n-1].Kids = nil
	return m
}

// upside is the chain, its root the node with the highest ID.
func upside(n int) api.Model {
	m := api.Model{Next: n + 1}
	for id := 1; id <= n; id++ {
		m.Nodes = append(m.Nodes, api.Node{ID: id, Concept: "C", Parent: id + 1, Role: "r", Kids: []int{id - 1}})
	}
	m.Nodes[0].Kids = nil
	m.Nodes[n-1].Parent, m.Nodes[n-1].Role = 0, ""
	return m
}

// ring are nodes of which each one is the kid of the one ahead.
func ring(n int) api.Model {
	m := chain(n)
	m.Nodes[0].Parent, m.Nodes[0].Role = n, "r"
	m.Nodes[n-1].Kids = []int{1}
	return m
}

// flat are so many roots.
func flat(n int) api.Model {
	m := api.Model{Next: n + 1}
	for id := 1; id <= n; id++ {
		m.Nodes = append(m.Nodes, api.Node{ID: id, Concept: "C"})
	}
	return m
}

// byHand are models at the edges of the conditions, and far past them.
func byHand() []api.Model {
	forked := chain(64)
	forked.Nodes = append(forked.Nodes, api.Node{ID: 65, Concept: "C", Parent: 64, Role: "r"})
	forked.Nodes[63].Kids, forked.Next = []int{65}, 66
	ringed := ring(3)
	ringed.Nodes = append(ringed.Nodes, api.Node{ID: 4, Concept: "C"})
	ringed.Next = 5
	return []api.Model{
		{}, {Next: -1}, {Next: 1}, {Next: 1 << 20}, {Next: 1<<20 + 1}, {Next: 1<<20 + 2}, {Next: math.MinInt}, {Next: math.MaxInt},
		{Next: 1<<20 + 1, Nodes: []api.Node{{ID: 1 << 20, Concept: "C"}}}, {Next: 1 << 20, Nodes: []api.Node{{ID: 1 << 20, Concept: "C"}}},
		{Next: 1, Nodes: []api.Node{{ID: 1, Concept: "C"}}}, {Next: 2, Nodes: []api.Node{{ID: 0, Concept: "C"}}}, {Next: 2, Nodes: []api.Node{{ID: 1, Concept: "C"}, {ID: 1, Concept: "C"}}}, {Next: 2, Nodes: []api.Node{{ID: 1, Concept: "C", Role: "r"}}}, {Next: 2, Nodes: []api.Node{{ID: 1, Concept: "C", Parent: 1, Role: "r", Kids: []int{1}}}},
		{Next: 3, Nodes: []api.Node{{ID: 1, Concept: "C", Kids: []int{2}}, {ID: 2, Concept: "C", Parent: 1}}}, {Next: 3, Nodes: []api.Node{{ID: 1, Concept: "C", Kids: []int{2, 2}}, {ID: 2, Concept: "C", Parent: 1, Role: "r"}}},
		{Next: 2, Nodes: make([]api.Node, 1<<16)}, {Next: 2, Nodes: []api.Node{{ID: 1, Concept: "C", Kids: make([]int, 1<<16), Props: make([]api.Prop, 1<<16), Refs: make([]api.Ref, 1<<16)}}},
		flat(4096), flat(4097), chain(63), chain(64), chain(65), chain(66), chain(4096), upside(63), upside(64), upside(65), upside(4096), forked, ring(1), ring(2), ring(64), ring(65), ring(4096), ringed,
	}
}

// refuseAll asks all calls of a model that isn't right: P0.2, and P2.8's answers of nothing.
func refuseAll(t *testing.T, m api.Model) {
	t.Helper()
	for _, a := range []answer{
		withID(arena.Add(m, 1, "item", 0, "Num")), withID(arena.Add(m, -1, "", 9, "")),
		without(arena.Remove(m, 1)), without(arena.Remove(m, 99)),
		without(arena.Move(m, 2, 1, "item", 0)), without(arena.Move(m, 1, 1, "", 9)),
		withID(arena.Copy(m, 2, 1, "item", 0)), withID(arena.Copy(m, 99, -1, "", 9)),
		without(arena.Put(m, 1, "v", "5")), without(arena.Put(m, 99, "", strings.Repeat("v", 4097))),
		without(arena.Drop(m, 1, "name")), without(arena.Drop(m, 99, "")),
		without(arena.Aim(m, 1, "to", 1)), without(arena.Aim(m, 99, "", 99)),
		without(arena.Loose(m, 1, "to")), without(arena.Loose(m, 99, "")),
	} {
		if !a.refused(api.ErrModel) {
			t.Fatalf("of %v: %v", m, a)
		}
	}
	if l := arena.Order(m); len(l) > 0 {
		t.Fatalf("Order(%v): %v", m, l)
	}
	for _, id := range []int{-1, 0, 1, 2, 5, 99, math.MinInt, math.MaxInt} {
		lookAtNone(t, m, id)
	}
}

// refused tells whether the answer is that error and nothing else.
func (a answer) refused(e api.Errno) bool {
	return a.e == e && a.id == 0 && a.m.Next == 0 && len(a.m.Nodes) == 0
}

// P2.1: Same goes field by field, of any models; lists that are nil and empty ones are the same.
func TestSame(t *testing.T) {
	for _, m := range append(twisted(), byHand()...) {
		if arena.Same(m, sample()) != equal(m, sample()) || arena.Same(sample(), m) != equal(m, sample()) || !arena.Same(m, m) {
			t.Fatalf("Same of %v and the sample: %v", m, arena.Same(m, sample()))
		}
	}
	for i := range sample().Nodes {
		m := sample()
		m.Nodes[i].Props = append(m.Nodes[i].Props, api.Prop{Name: "z", Value: "1"})
		n := sample()
		n.Nodes[i].Props = append(n.Nodes[i].Props, api.Prop{Name: "z", Value: "2"})
		if arena.Same(m, n) {
			t.Errorf("Same of %v and %v", m, n)
		}
	}
	m, n := sample(), sample()
	for i := range m.Nodes {
		m.Nodes[i].Props, n.Nodes[i].Props = []api.Prop{}, nil
		m.Nodes[i].Kids, n.Nodes[i].Kids = []int{}, nil
		m.Nodes[i].Refs, n.Nodes[i].Refs = []api.Ref{}, nil
	}
	if !arena.Same(m, n) || !arena.Same(n, m) || !arena.Same(api.Model{Next: 1, Nodes: []api.Node{}}, arena.New()) {
		t.Error("lists that are empty, and nil ones")
	}
}

// P2.2: the places of a role among kids of several roles.
func TestAddPlaces(t *testing.T) {
	m := api.Model{Next: 7, Nodes: []api.Node{
		{ID: 1, Concept: "C", Kids: []int{4, 2, 6, 3, 5}},
		{ID: 2, Concept: "C", Parent: 1, Role: "a"}, {ID: 3, Concept: "C", Parent: 1, Role: "a"}, {ID: 4, Concept: "C", Parent: 1, Role: "b"}, {ID: 5, Concept: "C", Parent: 1, Role: "b"}, {ID: 6, Concept: "C", Parent: 1, Role: "c"},
	}}
	for _, c := range []struct {
		role string
		at   int
		kids []int
	}{
		{"a", 0, []int{4, 7, 2, 6, 3, 5}}, {"a", 1, []int{4, 2, 6, 7, 3, 5}}, {"a", 2, []int{4, 2, 6, 3, 7, 5}}, {"a", 3, nil}, {"a", -1, nil},
		{"b", 0, []int{7, 4, 2, 6, 3, 5}}, {"b", 1, []int{4, 2, 6, 3, 7, 5}}, {"b", 2, []int{4, 2, 6, 3, 5, 7}}, {"b", 3, nil},
		{"c", 0, []int{4, 2, 7, 6, 3, 5}}, {"c", 1, []int{4, 2, 6, 7, 3, 5}}, {"c", 2, nil},
		{"d", 0, []int{4, 2, 6, 3, 5, 7}}, {"d", 1, nil}, {"d", -1, nil}, {"d", math.MaxInt, nil}, {"d", math.MinInt, nil}, {"?a", 0, []int{4, 2, 6, 3, 5, 7}},
	} {
		a := withID(arena.Add(m, 1, c.role, c.at, "?New"))
		if c.kids == nil {
			if !a.refused(api.ErrPlace) {
				t.Errorf("Add at %q, %d: %v", c.role, c.at, a)
			}
			continue
		}
		up, _ := arena.Find(a.m, 1)
		n, ok := arena.Find(a.m, 7)
		if a.e != api.OK || a.id != 7 || a.m.Next != 8 || !slices.Equal(up.Kids, c.kids) || !ok || !equalNodes(n, api.Node{ID: 7, Concept: "?New", Parent: 1, Role: c.role}) {
			t.Errorf("Add at %q, %d: %v", c.role, c.at, a)
		}
	}
	a := withID(arena.Add(m, 0, "", 0, "C"))
	if n, _ := arena.Find(a.m, 7); a.e != api.OK || a.id != 7 || !equalNodes(n, api.Node{ID: 7, Concept: "C"}) || !slices.Equal(arena.Order(a.m), []int{1, 4, 2, 6, 3, 5, 7}) {
		t.Errorf("Add of a root: %v", a)
	}
}

// P2.3
func TestRemove(t *testing.T) {
	a := without(arena.Remove(sample(), 4))
	if up, _ := arena.Find(a.m, 1); a.e != api.OK || a.m.Next != 9 || len(a.m.Nodes) != 5 || !slices.Equal(up.Kids, []int{2, 3}) {
		t.Errorf("Remove of 4: %v", a)
	}
	a = without(arena.Remove(sample(), 8))
	n, _ := arena.Find(a.m, 2)
	if a.e != api.OK || a.m.Next != 9 || !slices.Equal(n.Refs, sample().Nodes[1].Refs) || !slices.Equal(arena.Users(a.m, 8), []int{2}) {
		t.Errorf("Remove of 8, to which a reference is: %v", a)
	}
	a = without(arena.Remove(sample(), 1))
	if a.e != api.OK || a.m.Next != 9 || !slices.Equal(arena.Order(a.m), []int{7, 8}) {
		t.Errorf("Remove of a root: %v", a)
	}
	for _, id := range []int{-1, 0, 5, 9, math.MinInt, math.MaxInt} {
		if a := without(arena.Remove(sample(), id)); !a.refused(api.ErrNoNode) {
			t.Errorf("Remove of %d: %v", id, a)
		}
	}
}

// P2.4: places are counted without the node itself; roots come and go.
func TestMove(t *testing.T) {
	m := api.Model{Next: 7, Nodes: []api.Node{
		{ID: 1, Concept: "C", Kids: []int{2, 3, 4, 5}, Refs: []api.Ref{{Role: "to", Target: 2}}},
		{ID: 2, Concept: "C", Parent: 1, Role: "a"}, {ID: 3, Concept: "C", Parent: 1, Role: "b"}, {ID: 4, Concept: "C", Parent: 1, Role: "a", Kids: []int{6}}, {ID: 5, Concept: "C", Parent: 1, Role: "a"}, {ID: 6, Concept: "C", Parent: 4, Role: "a"},
	}}
	for _, c := range []struct {
		id, parent int
		role       string
		at         int
		order      []int
		e          api.Errno
	}{
		{2, 1, "a", 0, []int{1, 3, 2, 4, 6, 5}, api.OK}, {2, 1, "a", 1, []int{1, 3, 4, 6, 2, 5}, api.OK}, {2, 1, "a", 2, []int{1, 3, 4, 6, 5, 2}, api.OK}, {2, 1, "a", 3, nil, api.ErrPlace},
		{3, 1, "b", 0, []int{1, 2, 4, 6, 5, 3}, api.OK}, {3, 1, "b", 1, nil, api.ErrPlace}, {3, 1, "a", 3, []int{1, 2, 4, 6, 5, 3}, api.OK}, {3, 1, "a", 4, nil, api.ErrPlace},
		{4, 1, "b", 0, []int{1, 2, 4, 6, 3, 5}, api.OK}, {4, 1, "b", 1, []int{1, 2, 3, 4, 6, 5}, api.OK}, {4, 3, "x", 0, []int{1, 2, 3, 4, 6, 5}, api.OK},
		{4, 0, "", 0, []int{1, 2, 3, 5, 4, 6}, api.OK}, {1, 0, "", 0, []int{1, 2, 3, 4, 6, 5}, api.OK}, {6, 1, "a", 0, []int{1, 6, 2, 3, 4, 5}, api.OK}, {6, 4, "a", 0, []int{1, 2, 3, 4, 6, 5}, api.OK}, {6, 4, "a", 1, nil, api.ErrPlace},
		{4, 0, "a", 0, nil, api.ErrPlace}, {4, 0, "?", 0, nil, api.ErrPlace}, {4, 0, "", 1, nil, api.ErrPlace}, {4, 0, "", -1, nil, api.ErrPlace},
		{1, 1, "a", 0, nil, api.ErrLoop}, {1, 6, "a", 0, nil, api.ErrLoop}, {4, 4, "a", 0, nil, api.ErrLoop}, {4, 6, "a", 0, nil, api.ErrLoop},
		{7, 1, "a", 0, nil, api.ErrNoNode}, {0, 1, "a", 0, nil, api.ErrNoNode}, {-1, 1, "a", 0, nil, api.ErrNoNode}, {2, 7, "a", 0, nil, api.ErrNoNode}, {2, -1, "a", 0, nil, api.ErrNoNode}, {0, 0, "", 0, nil, api.ErrNoNode},
		{2, 1, "", 0, nil, api.ErrArg}, {2, 1, "?", 0, nil, api.ErrArg},
	} {
		a := without(arena.Move(m, c.id, c.parent, c.role, c.at))
		if c.e != api.OK {
			if !a.refused(c.e) {
				t.Errorf("Move of %d to %d, %q, %d: %v", c.id, c.parent, c.role, c.at, a)
			}
			continue
		}
		n, _ := arena.Find(a.m, c.id)
		if a.e != api.OK || a.m.Next != 7 || n.Parent != c.parent || n.Role != c.role || !slices.Equal(arena.Order(a.m), c.order) || !slices.Equal(arena.Users(a.m, 2), []int{1}) {
			t.Errorf("Move of %d to %d, %q, %d: %v", c.id, c.parent, c.role, c.at, a)
		}
	}
}

// P2.5: a copy below what it is one of; references within the part, out of it, and to nothing.
func TestCopy(t *testing.T) {
	m := api.Model{Next: 10, Nodes: []api.Node{
		{ID: 2, Concept: "A", Kids: []int{7, 4}, Refs: []api.Ref{{Role: "x", Target: 2}}},
		{ID: 3, Concept: "B", Parent: 7, Role: "k", Props: []api.Prop{{Name: "v", Value: "3"}}, Refs: []api.Ref{{Role: "a", Target: 4}, {Role: "b", Target: 8}, {Role: "c", Target: 9}, {Role: "d", Target: 7}}},
		{ID: 4, Concept: "?C", Parent: 2, Role: "?r"},
		{ID: 7, Concept: "D", Parent: 2, Role: "s", Kids: []int{3}},
		{ID: 8, Concept: "E"},
	}}
	want := sampleCopy()
	a := withID(arena.Copy(m, 2, 3, "into", 0))
	if a.e != api.OK || a.id != 10 || !equal(a.m, want) {
		t.Errorf("Copy below itself: %v, not %v", a, want)
	}
	a = withID(arena.Copy(m, 7, 0, "", 0))
	n, _ := arena.Find(a.m, 10)
	k, _ := arena.Find(a.m, 11)
	if a.e != api.OK || a.id != 10 || a.m.Next != 12 || !equalNodes(n, api.Node{ID: 10, Concept: "D", Kids: []int{11}}) || !slices.Equal(k.Refs, []api.Ref{{Role: "a", Target: 4}, {Role: "b", Target: 8}, {Role: "c", Target: 9}, {Role: "d", Target: 10}}) {
		t.Errorf("Copy to a root: %v", a)
	}
	a = withID(arena.Copy(m, 4, 2, "s", 1))
	if n, _ := arena.Find(a.m, 2); a.e != api.OK || !slices.Equal(n.Kids, []int{7, 10, 4}) {
		t.Errorf("Copy beside itself: %v", a)
	}
	for _, c := range []struct {
		id, parent int
		role       string
		at         int
		e          api.Errno
	}{
		{4, 2, "s", 2, api.ErrPlace}, {4, 2, "s", -1, api.ErrPlace}, {4, 2, "?r", 2, api.ErrPlace}, {4, 0, "s", 0, api.ErrPlace}, {4, 0, "", 1, api.ErrPlace},
		{1, 2, "s", 0, api.ErrNoNode}, {0, 2, "s", 0, api.ErrNoNode}, {9, 2, "s", 0, api.ErrNoNode}, {4, 9, "s", 0, api.ErrNoNode}, {4, -1, "s", 0, api.ErrNoNode},
		{4, 2, "", 0, api.ErrArg}, {4, -1, "?", 0, api.ErrArg},
	} {
		if a := withID(arena.Copy(m, c.id, c.parent, c.role, c.at)); !a.refused(c.e) {
			t.Errorf("Copy of %d to %d, %q, %d: %v", c.id, c.parent, c.role, c.at, a)
		}
	}
}

// sampleCopy is TestCopy's model with the copies 10 to 13 of 2, 7, 3, 4, as the kid of 3.
func sampleCopy() api.Model {
	return api.Model{Next: 14, Nodes: []api.Node{
		{ID: 2, Concept: "A", Kids: []int{7, 4}, Refs: []api.Ref{{Role: "x", Target: 2}}},
		{ID: 3, Concept: "B", Parent: 7, Role: "k", Props: []api.Prop{{Name: "v", Value: "3"}}, Kids: []int{10}, Refs: []api.Ref{{Role: "a", Target: 4}, {Role: "b", Target: 8}, {Role: "c", Target: 9}, {Role: "d", Target: 7}}},
		{ID: 4, Concept: "?C", Parent: 2, Role: "?r"},
		{ID: 7, Concept: "D", Parent: 2, Role: "s", Kids: []int{3}},
		{ID: 8, Concept: "E"},
		{ID: 10, Concept: "A", Parent: 3, Role: "into", Kids: []int{11, 13}, Refs: []api.Ref{{Role: "x", Target: 10}}},
		{ID: 11, Concept: "D", Parent: 10, Role: "s", Kids: []int{12}},
		{ID: 12, Concept: "B", Parent: 11, Role: "k", Props: []api.Prop{{Name: "v", Value: "3"}}, Refs: []api.Ref{{Role: "a", Target: 13}, {Role: "b", Target: 8}, {Role: "c", Target: 9}, {Role: "d", Target: 11}}},
		{ID: 13, Concept: "?C", Parent: 10, Role: "?r"},
	}}
}

// P2.6
func TestPutAndDrop(t *testing.T) {
	m, full := sample(), strings.Repeat("\x00", 4096)
	for _, name := range []string{"v", "a", "?z", "z", "v"} {
		a := without(arena.Put(m, 3, name, name+"!"))
		if a.e != api.OK || a.m.Next != 9 {
			t.Fatalf("Put of %s: %v", name, a)
		}
		m = a.m
	}
	n, _ := arena.Find(m, 3)
	if !slices.Equal(n.Props, []api.Prop{{Name: "?z", Value: "?z!"}, {Name: "a", Value: "a!"}, {Name: "v", Value: "v!"}, {Name: "z", Value: "z!"}}) {
		t.Errorf("Put: %v", n)
	}
	for _, name := range []string{"a", "z", "none", "?z", "v", "v"} {
		a := without(arena.Drop(m, 3, name))
		if a.e != api.OK || a.m.Next != 9 {
			t.Fatalf("Drop of %s: %v", name, a)
		}
		m = a.m
	}
	if n, _ := arena.Find(m, 3); len(n.Props) > 0 {
		t.Errorf("Drop: %v", n)
	}
	a := without(arena.Put(m, 3, "v", full))
	if n, _ := arena.Find(a.m, 3); a.e != api.OK || !slices.Equal(n.Props, []api.Prop{{Name: "v", Value: full}}) {
		t.Errorf("Put of 4096 bytes: %d", a.e)
	}
	for _, c := range []struct {
		name  string
		a     answer
		wrong api.Errno
	}{
		{"Put of 4097 bytes", without(arena.Put(m, 3, "v", full+"a")), api.ErrLong}, {"Put at none", without(arena.Put(m, 5, "v", "")), api.ErrNoNode}, {"Put at 0", without(arena.Put(m, 0, "v", "")), api.ErrNoNode}, {"Put of no word", without(arena.Put(m, 3, "?", "")), api.ErrArg},
		{"Drop at none", without(arena.Drop(m, 5, "v")), api.ErrNoNode}, {"Drop at -1", without(arena.Drop(m, -1, "v")), api.ErrNoNode}, {"Drop of no word", without(arena.Drop(m, 3, "")), api.ErrArg},
	} {
		if !c.a.refused(c.wrong) {
			t.Errorf("%s: %v", c.name, c.a)
		}
	}
}

// P2.7
func TestAimAndLoose(t *testing.T) {
	m := sample()
	for _, r := range []api.Ref{{Role: "to", Target: 6}, {Role: "?b", Target: 3}, {Role: "z", Target: 7}, {Role: "to", Target: 1}} {
		a := without(arena.Aim(m, 3, r.Role, r.Target))
		if a.e != api.OK || a.m.Next != 9 {
			t.Fatalf("Aim of %v: %v", r, a)
		}
		m = a.m
	}
	n, _ := arena.Find(m, 3)
	if !slices.Equal(n.Refs, []api.Ref{{Role: "?b", Target: 3}, {Role: "to", Target: 1}, {Role: "z", Target: 7}}) {
		t.Errorf("Aim: %v", n)
	}
	for _, role := range []string{"to", "none", "z", "?b"} {
		a := without(arena.Loose(m, 3, role))
		if a.e != api.OK || a.m.Next != 9 {
			t.Fatalf("Loose of %s: %v", role, a)
		}
		m = a.m
	}
	if n, _ := arena.Find(m, 3); len(n.Refs) > 0 {
		t.Errorf("Loose: %v", n)
	}
	for _, c := range []struct {
		name  string
		a     answer
		wrong api.Errno
	}{
		{"Aim at one that was removed", without(arena.Aim(m, 3, "to", 5)), api.ErrNoNode}, {"Aim at 0", without(arena.Aim(m, 3, "to", 0)), api.ErrNoNode}, {"Aim of none", without(arena.Aim(m, 5, "to", 3)), api.ErrNoNode}, {"Aim of no word", without(arena.Aim(m, 3, "", 3)), api.ErrArg},
		{"Loose of none", without(arena.Loose(m, 5, "to")), api.ErrNoNode}, {"Loose of 0", without(arena.Loose(m, 0, "to")), api.ErrNoNode}, {"Loose of no word", without(arena.Loose(m, 3, "??a")), api.ErrArg},
	} {
		if !c.a.refused(c.wrong) {
			t.Errorf("%s: %v", c.name, c.a)
		}
	}
}

// P2.8
func TestLook(t *testing.T) {
	m := sample()
	look(t, m)
	if l := arena.Order(m); !slices.Equal(l, []int{1, 4, 6, 2, 3, 7, 8}) {
		t.Errorf("Order: %v", l)
	}
	if l := arena.Below(m, 1); !slices.Equal(l, []int{4, 6, 2, 3}) {
		t.Errorf("Below: %v", l)
	}
	if l := arena.Kids(m, 1, "item"); !slices.Equal(l, []int{4, 3}) {
		t.Errorf("Kids: %v", l)
	}
	if l := arena.Users(m, 5); !slices.Equal(l, []int{2, 7}) {
		t.Errorf("Users of one that was removed, of which a node has two references: %v", l)
	}
	if a, b, c := arena.Depth(m, 1), arena.Depth(m, 6), arena.Depth(chain(64), 64); a != 1 || b != 3 || c != 64 {
		t.Errorf("Depth: %d, %d, %d", a, b, c)
	}
	for _, big := range []api.Model{flat(4096), chain(64), upside(64)} {
		if l := arena.Order(big); !slices.Equal(l, grown(big).order()) {
			t.Errorf("Order of a great model: %v", l)
		}
	}
	if len(arena.Order(arena.New())) > 0 {
		t.Error("Order of no nodes")
	}
}
