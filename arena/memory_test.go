package arena_test

import (
	"testing"
	"unsafe"

	"topiary/api"
	"topiary/arena"
)

// A stretch is the memory of a list, the spare room behind it included.
type stretch struct {
	from, to uintptr
	of       string
}

func stretchOf[E any](l []E, of string) []stretch {
	if cap(l) == 0 {
		return nil
	}
	from := uintptr(unsafe.Pointer(unsafe.SliceData(l)))
	return []stretch{{from, from + uintptr(cap(l))*unsafe.Sizeof(l[:1][0]), of}}
}

func stretchesOf(nodes []api.Node, of string) []stretch {
	out := stretchOf(nodes, of+": Nodes")
	for _, n := range nodes[:cap(nodes)] {
		out = append(out, stretchesOfNode(n, of)...)
	}
	return out
}

func stretchesOfNode(n api.Node, of string) []stretch {
	out := stretchOf(n.Props, of+": Props")
	out = append(out, stretchOf(n.Kids, of+": Kids")...)
	return append(out, stretchOf(n.Refs, of+": Refs")...)
}

// apart tells of lists that share memory.
func apart(t *testing.T, l []stretch) {
	t.Helper()
	for i, a := range l {
		for _, b := range l[:i] {
			if a.from < b.to && b.from < a.to {
				t.Fatalf("%s and %s share memory", a.of, b.of)
			}
		}
	}
}

// spacious is the model in lists that have spare room, with something in it.
func spacious(m api.Model) api.Model {
	for i := range m.Nodes {
		n := &m.Nodes[i]
		n.Props = roomBehind(n.Props, api.Prop{Name: "spare", Value: "room"})
		n.Kids = roomBehind(n.Kids, 77)
		n.Refs = roomBehind(n.Refs, api.Ref{Role: "spare", Target: 77})
	}
	m.Nodes = roomBehind(m.Nodes, api.Node{ID: 77, Concept: "Spare"})
	return m
}

func roomBehind[E any](l []E, spare E) []E {
	out := make([]E, 0, len(l)+3)
	out = append(out, l...)
	for i := range 3 {
		out[:cap(out)][len(l)+i] = spare
	}
	return out
}

// kept is a second model of the same, spare room and all.
func kept(m api.Model) api.Model {
	nodes := append([]api.Node(nil), m.Nodes[:cap(m.Nodes)]...)
	for i, n := range nodes {
		nodes[i].Props = append([]api.Prop(nil), n.Props[:cap(n.Props)]...)
		nodes[i].Kids = append([]int(nil), n.Kids[:cap(n.Kids)]...)
		nodes[i].Refs = append([]api.Ref(nil), n.Refs[:cap(n.Refs)]...)
	}
	m.Nodes = nodes
	return m
}

// P0.4: what is handed in stays as it is, and what is answered shares nothing with it, nor among itself.
func TestMemory(t *testing.T) {
	m := spacious(sample())
	was, first := kept(m), stretchesOf(m.Nodes, "handed in")
	for _, c := range []struct {
		name string
		a    answer
	}{
		{"Add", withID(arena.Add(m, 1, "item", 1, "C"))}, {"Add of a root", withID(arena.Add(m, 0, "", 0, "C"))}, {"Remove", without(arena.Remove(m, 3))}, {"Remove of a root", without(arena.Remove(m, 1))},
		{"Move", without(arena.Move(m, 4, 7, "item", 0))}, {"Move within", without(arena.Move(m, 4, 1, "item", 1))}, {"Move to a root", without(arena.Move(m, 4, 0, "", 0))}, {"Move of a root", without(arena.Move(m, 7, 0, "", 0))},
		{"Copy", withID(arena.Copy(m, 1, 6, "item", 0))}, {"Copy to a root", withID(arena.Copy(m, 1, 0, "", 0))},
		{"Put", without(arena.Put(m, 3, "w", ""))}, {"Put again", without(arena.Put(m, 3, "v", ""))}, {"Drop", without(arena.Drop(m, 1, "?own"))}, {"Drop of none", without(arena.Drop(m, 1, "none"))},
		{"Aim", without(arena.Aim(m, 3, "at", 1))}, {"Aim again", without(arena.Aim(m, 3, "to", 1))}, {"Loose", without(arena.Loose(m, 7, "a"))}, {"Loose of none", without(arena.Loose(m, 7, "none"))},
	} {
		if c.a.e != api.OK || !equal(kept(m), was) {
			t.Fatalf("%s: %d, and the model handed in: %v", c.name, c.a.e, m)
		}
		apart(t, append(stretchesOf(c.a.m.Nodes, c.name), first...))
	}
	for id := range 10 {
		n, _ := arena.Find(m, id)
		l := append(stretchesOfNode(n, "Find"), first...)
		l = append(l, stretchOf(arena.Order(m), "Order")...)
		l = append(l, stretchOf(arena.Below(m, id), "Below")...)
		l = append(l, stretchOf(arena.Kids(m, id, "item"), "Kids")...)
		apart(t, append(l, stretchOf(arena.Users(m, id), "Users")...))
	}
	if arena.Check(m) != api.OK || arena.Depth(m, 6) != 3 || !arena.Same(m, m) || !equal(kept(m), was) {
		t.Fatalf("the model handed in: %v", m)
	}
}

// P0.3, P0.4: what is done to an answer, or to what was handed in, changes nothing of the other, and no later answer.
func TestNothingKept(t *testing.T) {
	m := sample()
	a := withID(arena.Copy(m, 1, 8, "sub", 0))
	before := grown(a.m).model()
	scribble(m)
	if !equal(a.m, before) {
		t.Errorf("the answer: %v, not %v", a.m, before)
	}
	m = sample()
	a = withID(arena.Copy(m, 1, 8, "sub", 0))
	scribble(a.m)
	if !equal(m, sample()) {
		t.Errorf("what was handed in: %v", m)
	}
	if b := withID(arena.Copy(m, 1, 8, "sub", 0)); !equal(b.m, before) {
		t.Errorf("the same call later: %v, not %v", b.m, before)
	}
}

func scribble(m api.Model) {
	for i := range m.Nodes {
		n := &m.Nodes[i]
		for k := range n.Props {
			n.Props[k] = api.Prop{Name: "scribbled"}
		}
		for k := range n.Kids {
			n.Kids[k] = -5
		}
		for k := range n.Refs {
			n.Refs[k] = api.Ref{Role: "scribbled", Target: -5}
		}
		n.Concept, n.ID, n.Parent = "", -5, -5
	}
}
