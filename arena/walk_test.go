package arena_test

import (
	"slices"
	"strings"
	"testing"

	"topiary/api"
	"topiary/arena"
)

// equal holds two models against each other without the package's own Same.
func equal(a, b api.Model) bool {
	return a.Next == b.Next && slices.EqualFunc(a.Nodes, b.Nodes, equalNodes)
}

func equalNodes(a, b api.Node) bool {
	return a.ID == b.ID && a.Concept == b.Concept && a.Parent == b.Parent && a.Role == b.Role && slices.Equal(a.Props, b.Props) && slices.Equal(a.Kids, b.Kids) && slices.Equal(a.Refs, b.Refs)
}

// A call is one of those that answer a model, with its arguments; again is what the chapter's words ask of it.
type call struct {
	name  string
	did   answer
	again answer
}

func withID(m api.Model, id int, e api.Errno) answer { return answer{m, id, e} }

func without(m api.Model, e api.Errno) answer { return answer{m, 0, e} }

// thrown is a call with arguments of the dice, on m.
func thrown(d dice, m api.Model) call {
	id, parent, at, word, other := d.id(m), d.id(m), d.IntN(5)-1, d.word(), d.word()
	if parent <= 0 && d.IntN(2) == 0 {
		word, at = "", 0
	}
	value := d.of("", "v", "\xff", strings.Repeat("v", 4096), strings.Repeat("v", 4097))
	switch d.IntN(9) {
	case 0, 1:
		return call{"Add", withID(arena.Add(m, parent, word, at, other)), addAgain(m, parent, word, at, other)}
	case 2:
		return call{"Remove", without(arena.Remove(m, id)), removeAgain(m, id)}
	case 3:
		return call{"Move", without(arena.Move(m, id, parent, word, at)), moveAgain(m, id, parent, word, at)}
	case 4:
		return call{"Copy", withID(arena.Copy(m, id, parent, word, at)), copyAgain(m, id, parent, word, at)}
	case 5:
		return call{"Put", without(arena.Put(m, id, word, value)), putAgain(m, id, word, value)}
	case 6:
		return call{"Drop", without(arena.Drop(m, id, word)), dropAgain(m, id, word)}
	case 7:
		return call{"Aim", without(arena.Aim(m, id, word, parent)), aimAgain(m, id, word, parent)}
	}
	return call{"Loose", without(arena.Loose(m, id, word)), looseAgain(m, id, word)}
}

// P2.2 to P2.9, P0.2, P0.3: on long walks each call answers what the chapter's words ask, and what is there is looked at the same.
func TestWalks(t *testing.T) {
	done := map[string]int{}
	for seed := range uint64(60) {
		d, m := newDice(seed), arena.New()
		for range 300 {
			before := grown(m).model()
			c := thrown(d, m)
			if !equal(c.did.m, c.again.m) || c.did.id != c.again.id || c.did.e != c.again.e {
				t.Fatalf("%s of %v: %v, not %v", c.name, m, c.did, c.again)
			}
			if !equal(m, before) {
				t.Fatalf("%s has changed %v to %v", c.name, before, m)
			}
			done[c.name+" "+c.did.e.Error()]++
			if c.did.e != api.OK {
				continue
			}
			if arena.Check(c.did.m) != api.OK || !isRight(c.did.m) {
				t.Fatalf("%s of %v: %v is not right", c.name, m, c.did.m)
			}
			if len(c.did.m.Nodes) <= 16 {
				m = c.did.m
			}
			look(t, m)
		}
	}
	// A walk that comes past hardly anything would hold for nothing.
	for _, name := range []string{"Add", "Remove", "Move", "Copy", "Put", "Drop", "Aim", "Loose"} {
		for _, e := range []api.Errno{api.OK, api.ErrArg, api.ErrNoNode, api.ErrLong, api.ErrLoop, api.ErrPlace} {
			if n := done[name+" "+e.Error()]; n < 20 && tells(name, e) {
				t.Errorf("%s told %d but %d times", name, e, n)
			}
		}
	}
}

// tells tells whether a call may tell that error.
func tells(name string, e api.Errno) bool {
	switch e {
	case api.ErrArg:
		return name != "Remove"
	case api.ErrLong:
		return name == "Put"
	case api.ErrLoop:
		return name == "Move"
	case api.ErrPlace:
		return name == "Add" || name == "Move" || name == "Copy"
	}
	return true
}

// look asks P2.8 of a right model, at each ID and around.
func look(t *testing.T, m api.Model) {
	t.Helper()
	w := grown(m)
	order := arena.Order(m)
	if !slices.Equal(order, w.order()) {
		t.Fatalf("Order of %v: %v", m, order)
	}
	for i, id := range order {
		n, _ := arena.Find(m, id)
		if slices.Index(order, id) != i || n.Parent != 0 && !slices.Contains(order[:i], n.Parent) {
			t.Fatalf("Order of %v: %v: %d", m, order, id)
		}
	}
	for id := -1; id <= m.Next+1; id++ {
		b := w.all[id]
		if b == nil {
			lookAtNone(t, m, id)
			continue
		}
		n, ok := arena.Find(m, id)
		at := slices.IndexFunc(m.Nodes, func(n api.Node) bool { return n.ID == id })
		if !ok || !equalNodes(n, m.Nodes[at]) {
			t.Fatalf("Find(%v, %d): %v, %v", m, id, n, ok)
		}
		if l := arena.Below(m, id); !slices.Equal(l, below(b)) {
			t.Fatalf("Below(%v, %d): %v", m, id, l)
		}
		if d := arena.Depth(m, id); d != depthOf(b) {
			t.Fatalf("Depth(%v, %d): %d", m, id, d)
		}
		if l := arena.Users(m, id); !slices.Equal(l, w.users(id)) {
			t.Fatalf("Users(%v, %d): %v", m, id, l)
		}
		for _, role := range []string{"", "a", "b", "c", "?k", "?Kept", "none", "?"} {
			if l := arena.Kids(m, id, role); !slices.Equal(l, kidsIn(b, role)) {
				t.Fatalf("Kids(%v, %d, %q): %v", m, id, role, l)
			}
		}
	}
}

// lookAtNone asks P2.8 of an ID that none has, or of a model that isn't right.
func lookAtNone(t *testing.T, m api.Model, id int) {
	t.Helper()
	n, ok := arena.Find(m, id)
	if ok || !equalNodes(n, api.Node{}) || len(arena.Below(m, id)) > 0 || len(arena.Kids(m, id, "a")) > 0 || len(arena.Kids(m, id, "")) > 0 || arena.Depth(m, id) != 0 {
		t.Fatalf("of %v at %d: %v, %v, %v, %v, %d", m, id, n, ok, arena.Below(m, id), arena.Kids(m, id, "a"), arena.Depth(m, id))
	}
	var users []int
	if isRight(m) {
		users = grown(m).users(id)
	}
	if l := arena.Users(m, id); !slices.Equal(l, users) {
		t.Fatalf("Users(%v, %d): %v", m, id, l)
	}
}

// P2.10
func TestThereAndBack(t *testing.T) {
	for seed := range uint64(40) {
		d, m := newDice(seed+1000), arena.New()
		for range 150 {
			if c := thrown(d, m); c.did.e == api.OK && len(c.did.m.Nodes) <= 14 {
				m = c.did.m
			}
			addedAndRemoved(t, d, m)
			movedAndBack(t, d, m)
		}
	}
}

func addedAndRemoved(t *testing.T, d dice, m api.Model) {
	parent, role, at := d.id(m), d.word(), d.IntN(4)
	for _, a := range []answer{withID(arena.Add(m, parent, role, at, "New")), withID(arena.Copy(m, d.id(m), parent, role, at))} {
		if a.e != api.OK {
			continue
		}
		back, e := arena.Remove(a.m, a.id)
		if back.Next != a.m.Next || e != api.OK {
			t.Fatalf("Remove(%v, %d): %v, %d", a.m, a.id, back, e)
		}
		back.Next = m.Next
		if !equal(back, m) || !arena.Same(back, m) {
			t.Fatalf("%v, with %d at %d, %q, %d and without it again: %v", m, a.id, parent, role, at, back)
		}
	}
}

func movedAndBack(t *testing.T, d dice, m api.Model) {
	id := d.id(m)
	n, ok := arena.Find(m, id)
	if !ok {
		return
	}
	at := max(0, slices.Index(arena.Kids(m, n.Parent, n.Role), id))
	away, e := arena.Move(m, id, d.id(m), d.word(), d.IntN(3))
	if e != api.OK {
		return
	}
	back, e := arena.Move(away, id, n.Parent, n.Role, at)
	if e != api.OK {
		t.Fatalf("Move(%v, %d) back: %d", away, id, e)
	}
	for _, now := range back.Nodes {
		was, _ := arena.Find(m, now.ID)
		for _, role := range []string{"a", "b", "c", "?k", "?Kept", strings.Repeat("a", 32)} {
			if !slices.Equal(arena.Kids(back, now.ID, role), arena.Kids(m, now.ID, role)) {
				t.Fatalf("%d of %v, moved away and back: %v", id, m, back)
			}
		}
		was.Kids, now.Kids = nil, nil
		if !equalNodes(was, now) {
			t.Fatalf("%d of %v, moved away and back: %v", id, m, back)
		}
	}
	if len(back.Nodes) != len(m.Nodes) || back.Next != m.Next {
		t.Fatalf("%d of %v, moved away and back: %v", id, m, back)
	}
}
