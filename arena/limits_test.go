package arena_test

import (
	"strings"
	"testing"

	"topiary/api"
	"topiary/arena"
)

// deepAndFull is a right model of 4096 nodes: 1 to 64 are a chain, with 65 below 63 beside it, 66 and on are roots; 66 has the kid 67, 67 the kid 68; 69 is a second kid of 2, so that not the last node is the deepest one.
func deepAndFull() api.Model {
	m := flat(4096)
	copy(m.Nodes, chain(64).Nodes)
	hang(m, 65, 63)
	hang(m, 67, 66)
	hang(m, 68, 67)
	hang(m, 69, 2)
	return m
}

// hang hangs a root below another node.
func hang(m api.Model, id, parent int) {
	m.Nodes[id-1].Parent, m.Nodes[id-1].Role = parent, "r"
	m.Nodes[parent-1].Kids = append(m.Nodes[parent-1].Kids, id)
}

// less is deepAndFull without its last n nodes, with that Next.
func less(n, next int) api.Model {
	m := deepAndFull()
	m.Nodes = m.Nodes[:len(m.Nodes)-n]
	m.Next = next
	return m
}

// A told is an answer, and the error that the chapter asks for.
type told struct {
	name string
	a    answer
	e    api.Errno
}

func check(t *testing.T, l []told) {
	t.Helper()
	for _, c := range l {
		if c.e != api.OK && !c.a.refused(c.e) || c.a.e != c.e {
			t.Errorf("%s: %d, %d nodes, Next %d, ID %d; not %d", c.name, c.a.e, len(c.a.m.Nodes), c.a.m.Next, c.a.id, c.e)
		}
		if c.e == api.OK && (arena.Check(c.a.m) != api.OK || !isRight(c.a.m)) {
			t.Errorf("%s: what comes is not right", c.name)
		}
	}
}

// P2.2, P2.4, P2.5: the 64th level and the 65th.
func TestDepth(t *testing.T) {
	m := less(1000, 4097)
	check(t, []told{
		{"Add at 63", withID(arena.Add(m, 63, "r", 0, "C")), api.OK}, {"Add at 64", withID(arena.Add(m, 64, "r", 0, "C")), api.ErrDeep}, {"Add at 65", withID(arena.Add(m, 65, "r", 0, "C")), api.ErrDeep},
		{"Move of 1 level to 63", without(arena.Move(m, 68, 63, "r", 0)), api.OK}, {"Move of 1 level to 64", without(arena.Move(m, 68, 64, "r", 0)), api.ErrDeep},
		{"Move of 2 levels to 62", without(arena.Move(m, 67, 62, "r", 0)), api.OK}, {"Move of 2 levels to 63", without(arena.Move(m, 67, 63, "r", 0)), api.ErrDeep},
		{"Move of 3 levels to 61", without(arena.Move(m, 66, 61, "r", 0)), api.OK}, {"Move of 3 levels to 62", without(arena.Move(m, 66, 62, "r", 0)), api.ErrDeep},
		{"Move of 64 levels to a root", without(arena.Move(m, 1, 0, "", 0)), api.OK}, {"Move of 64 levels below another", without(arena.Move(m, 1, 66, "r", 0)), api.ErrDeep}, {"Move of 63 levels below another", without(arena.Move(m, 2, 66, "s", 0)), api.OK},
		{"Copy of 1 level to 63", withID(arena.Copy(m, 64, 63, "r", 0)), api.OK}, {"Copy of 1 level to 64", withID(arena.Copy(m, 64, 64, "r", 0)), api.ErrDeep},
		{"Copy of 3 levels to 61", withID(arena.Copy(m, 66, 61, "r", 0)), api.OK}, {"Copy of 3 levels to 62", withID(arena.Copy(m, 66, 62, "r", 0)), api.ErrDeep},
		{"Copy of 64 levels to a root", withID(arena.Copy(m, 1, 0, "", 0)), api.OK}, {"Copy of 64 levels below another", withID(arena.Copy(m, 1, 66, "r", 0)), api.ErrDeep}, {"Copy of 63 levels below the first of them", withID(arena.Copy(m, 2, 1, "s", 0)), api.OK},
	})
}

// P2.2, P2.5: 4096 nodes and 4097; IDs up to 2^20 and one more.
func TestRoom(t *testing.T) {
	check(t, []told{
		{"Add of the 4096th", withID(arena.Add(less(1, 4097), 1, "s", 0, "C")), api.OK}, {"Add of the 4097th", withID(arena.Add(deepAndFull(), 1, "s", 0, "C")), api.ErrFull}, {"Add of the 4097th, a root", withID(arena.Add(deepAndFull(), 0, "", 0, "C")), api.ErrFull},
		{"Copy of 3 to 4096", withID(arena.Copy(less(3, 4097), 66, 1, "s", 0)), api.OK}, {"Copy of 3 to 4097", withID(arena.Copy(less(2, 4097), 66, 1, "s", 0)), api.ErrFull}, {"Copy of 2048 to 4096", withID(arena.Copy(half(2048), 1, 0, "", 0)), api.OK}, {"Copy of 2049 to 4098", withID(arena.Copy(half(2049), 1, 0, "", 0)), api.ErrFull},
		{"Move in a full model", without(arena.Move(deepAndFull(), 66, 1, "s", 0)), api.OK}, {"Put in a full model", without(arena.Put(deepAndFull(), 66, "v", "5")), api.OK}, {"Aim in a full model", without(arena.Aim(deepAndFull(), 66, "to", 1)), api.OK},
	})
	const last = 1 << 20
	a := withID(arena.Add(less(9, last), 0, "", 0, "C"))
	b := withID(arena.Copy(less(9, last-2), 66, 67, "s", 0))
	if a.id != last || a.m.Next != last+1 || b.id != last-2 || b.m.Next != last+1 {
		t.Errorf("the last IDs: %d, %d; %d, %d", a.id, a.m.Next, b.id, b.m.Next)
	}
	check(t, []told{
		{"Add of the last ID", a, api.OK}, {"Add of one more", withID(arena.Add(a.m, 0, "", 0, "C")), api.ErrFull},
		{"Copy up to the last ID", b, api.OK}, {"Copy past it", withID(arena.Copy(less(9, last-1), 66, 67, "s", 0)), api.ErrFull}, {"Copy where there are none", withID(arena.Copy(b.m, 68, 0, "", 0)), api.ErrFull},
		{"Remove of the last ID", without(arena.Remove(a.m, last)), api.OK}, {"Move of the last ID", without(arena.Move(a.m, last, 1, "s", 0)), api.OK},
	})
	gone, _ := arena.Remove(a.m, last)
	check(t, []told{{"Add where the last ID was", withID(arena.Add(gone, 0, "", 0, "C")), api.ErrFull}})
}

// half is a root with so many nodes, itself counted.
func half(n int) api.Model {
	m := flat(n)
	for id := 2; id <= n; id++ {
		hang(m, id, 1)
	}
	return m
}

// P0.2: where several errors apply, the first one of the chapter's order; each line mends what the one ahead of it told.
func TestOrderOfErrors(t *testing.T) {
	m, bad, long := deepAndFull(), api.Model{}, strings.Repeat("v", 4097)
	roomy := less(1000, 4097)
	check(t, []told{
		{"Add: all", withID(arena.Add(bad, -1, "", -1, "")), api.ErrModel}, {"Add: the concept", withID(arena.Add(m, -1, "r", -1, "")), api.ErrArg}, {"Add: the role", withID(arena.Add(m, -1, "", -1, "C")), api.ErrArg}, {"Add: the concept of a root", withID(arena.Add(m, 0, "?", 1, "?")), api.ErrArg}, {"Add: the parent", withID(arena.Add(m, -1, "r", -1, "C")), api.ErrNoNode}, {"Add: the place", withID(arena.Add(m, 64, "r", 1, "C")), api.ErrPlace}, {"Add: a root's role", withID(arena.Add(m, 0, "?", 0, "C")), api.ErrPlace}, {"Add: the depth", withID(arena.Add(m, 64, "r", 0, "C")), api.ErrDeep}, {"Add: the room", withID(arena.Add(m, 63, "r", 0, "C")), api.ErrFull}, {"Add", withID(arena.Add(roomy, 63, "r", 0, "C")), api.OK},
		{"Remove: all", without(arena.Remove(bad, -1)), api.ErrModel}, {"Remove: the node", without(arena.Remove(m, -1)), api.ErrNoNode},
		{"Move: all", without(arena.Move(bad, -1, -1, "", -1)), api.ErrModel}, {"Move: the role", without(arena.Move(m, -1, -1, "", -1)), api.ErrArg}, {"Move: the role, into itself", without(arena.Move(m, 1, 64, "?", -1)), api.ErrArg}, {"Move: the node", without(arena.Move(m, -1, 64, "r", -1)), api.ErrNoNode}, {"Move: the node, to a root", without(arena.Move(m, -1, 0, "r", 0)), api.ErrNoNode}, {"Move: the parent", without(arena.Move(m, 1, -1, "r", -1)), api.ErrNoNode}, {"Move: below itself", without(arena.Move(m, 1, 64, "r", -1)), api.ErrLoop}, {"Move: below itself, deep", without(arena.Move(m, 1, 64, "r", 0)), api.ErrLoop}, {"Move: the place", without(arena.Move(m, 66, 64, "r", -1)), api.ErrPlace}, {"Move: the depth", without(arena.Move(m, 66, 64, "r", 0)), api.ErrDeep}, {"Move", without(arena.Move(m, 66, 1, "r", 0)), api.OK},
		{"Copy: all", withID(arena.Copy(bad, -1, -1, "", -1)), api.ErrModel}, {"Copy: the role", withID(arena.Copy(m, -1, -1, "", -1)), api.ErrArg}, {"Copy: the node", withID(arena.Copy(m, -1, 64, "r", -1)), api.ErrNoNode}, {"Copy: the node, to a root", withID(arena.Copy(m, -1, 0, "r", 0)), api.ErrNoNode}, {"Copy: the parent", withID(arena.Copy(m, 1, -1, "r", -1)), api.ErrNoNode}, {"Copy: the place", withID(arena.Copy(m, 1, 64, "r", -1)), api.ErrPlace}, {"Copy: the depth", withID(arena.Copy(m, 1, 64, "r", 0)), api.ErrDeep}, {"Copy: the room", withID(arena.Copy(m, 1, 0, "", 0)), api.ErrFull}, {"Copy", withID(arena.Copy(roomy, 1, 0, "", 0)), api.OK},
		{"Put: all", without(arena.Put(bad, -1, "", long)), api.ErrModel}, {"Put: the name", without(arena.Put(m, -1, "", long)), api.ErrArg}, {"Put: the value", without(arena.Put(m, -1, "v", long)), api.ErrLong}, {"Put: the node", without(arena.Put(m, -1, "v", "")), api.ErrNoNode},
		{"Drop: all", without(arena.Drop(bad, -1, "")), api.ErrModel}, {"Drop: the name", without(arena.Drop(m, -1, "")), api.ErrArg}, {"Drop: the node", without(arena.Drop(m, -1, "v")), api.ErrNoNode},
		{"Aim: all", without(arena.Aim(bad, -1, "", -1)), api.ErrModel}, {"Aim: the role", without(arena.Aim(m, -1, "", -1)), api.ErrArg}, {"Aim: the node", without(arena.Aim(m, -1, "to", 1)), api.ErrNoNode}, {"Aim: the target", without(arena.Aim(m, 1, "to", -1)), api.ErrNoNode},
		{"Loose: all", without(arena.Loose(bad, -1, "")), api.ErrModel}, {"Loose: the role", without(arena.Loose(m, -1, "")), api.ErrArg}, {"Loose: the node", without(arena.Loose(m, -1, "to")), api.ErrNoNode},
	})
}
