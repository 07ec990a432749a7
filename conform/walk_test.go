package conform_test

import (
	"slices"
	"strconv"
	"testing"

	"topiary/api"
	"topiary/arena"
	"topiary/conform"
	"topiary/meta"
)

func nth(letter string, i int) string { return letter + strconv.Itoa(i) }

// names are so many different ones of a few, none of them of those taken.
func (d dice) names(letter string, n int, taken []string) []string {
	var out []string
	for _, i := range d.Perm(9) {
		if name := nth(letter, i); len(out) < n && !slices.Contains(taken, name) {
			out = append(out, name)
		}
	}
	return out
}

func (d dice) half() bool { return d.IntN(2) == 0 }

// languages are some that may be together, of concepts A, B, ..
func (d dice) languages() []api.Language {
	ls := []api.Language{{Name: "a", Version: 1}, {Name: "b", Version: 1}, {Name: "c", Version: 1}}
	all := []string{"A", "B", "C", "D", "E", "F"}
	d.Shuffle(len(all), func(i, k int) { all[i], all[k] = all[k], all[i] })
	all = all[:2+d.IntN(5)]
	for i, name := range all {
		c := api.Concept{Name: name, Abstract: d.IntN(5) == 0}
		if i > 0 && d.IntN(4) > 0 {
			c.Super = all[d.IntN(i)]
		}
		var taken []string
		for _, up := range (slow{ls: ls}).line(c.Super) {
			for _, p := range up.Props {
				taken = append(taken, p.Name)
			}
			for _, k := range up.Kids {
				taken = append(taken, k.Role)
			}
			for _, r := range up.Refs {
				taken = append(taken, r.Role)
			}
		}
		for _, n := range d.names("p", d.IntN(3), taken) {
			c.Props = append(c.Props, api.PropDef{Name: n, Type: 1 + d.IntN(4)})
		}
		for _, n := range d.names("k", d.IntN(3), taken) {
			c.Kids = append(c.Kids, api.KidDef{Role: n, Concept: pick(d, all...), Min: d.IntN(2), Max: d.IntN(2)})
		}
		for _, n := range d.names("r", d.IntN(3), taken) {
			c.Refs = append(c.Refs, api.RefDef{Role: n, Concept: pick(d, all...), Need: d.half()})
		}
		l := pick(d, &ls[0], &ls[1], &ls[2])
		l.Concepts = append(l.Concepts, c)
	}
	return ls
}

// A gardener changes models.
type gardener struct {
	dice
	table *meta.Table
}

func (g gardener) concept() string {
	if g.IntN(6) == 0 {
		return pick(g.dice, "?Kept", "?Kept", "?kept", "Odd")
	}
	return pick(g.dice, append(g.table.Concepts(), "A")...)
}

// role is mostly one that a node of that concept has.
func (g gardener) role(concept string) string {
	c, _ := g.table.Concept(concept)
	if len(c.Kids) > 0 && g.IntN(5) > 0 {
		return pick(g.dice, c.Kids...).Role
	}
	return pick(g.dice, "?kept", "?kept", "odd", "k1", "p1")
}

func (g gardener) prop(concept string) string {
	c, _ := g.table.Concept(concept)
	if len(c.Props) > 0 && g.IntN(5) > 0 {
		return pick(g.dice, c.Props...).Name
	}
	return pick(g.dice, "odd", "p1", "k1", "?p")
}

func (g gardener) ref(concept string) string {
	c, _ := g.table.Concept(concept)
	if len(c.Refs) > 0 && g.IntN(5) > 0 {
		return pick(g.dice, c.Refs...).Role
	}
	return pick(g.dice, "odd", "r1", "k1", "?r")
}

// node is one of the model, or none.
func (g gardener) node(m api.Model) api.Node {
	if len(m.Nodes) == 0 || g.IntN(8) == 0 {
		return api.Node{}
	}
	return pick(g.dice, m.Nodes...)
}

// changed is the model with one change, or none, if that is refused.
func (g gardener) changed(m api.Model) api.Model {
	n, p := g.node(m), g.node(m)
	role, at := "", 0
	if p.ID > 0 {
		role = g.role(p.Concept)
		at = g.IntN(len(arena.Kids(m, p.ID, role)) + 1)
	}
	var out api.Model
	var e api.Errno
	switch kind := g.IntN(24); {
	case kind < 6 && len(m.Nodes) < 24:
		out, _, e = arena.Add(m, p.ID, role, at, g.concept())
	case kind < 8:
		out, e = arena.Remove(m, n.ID)
	case kind < 11:
		out, e = arena.Move(m, n.ID, p.ID, role, at)
	case kind < 12 && len(m.Nodes) < 24:
		out, _, e = arena.Copy(m, n.ID, p.ID, role, at)
	case kind < 15:
		out, e = arena.Put(m, n.ID, g.prop(n.Concept), pick(g.dice, "", "5", "05", "true", "a b"))
	case kind < 16:
		out, e = arena.Drop(m, n.ID, g.prop(n.Concept))
	case kind < 19:
		out, e = arena.Aim(m, n.ID, g.ref(n.Concept), p.ID)
	case kind < 20:
		out, e = arena.Loose(m, n.ID, g.ref(n.Concept))
	default:
		out, e = turned(m, n.ID, g.concept())
	}
	if e != api.OK {
		return m
	}
	return out
}

// turned is the model with another concept of a node.
func turned(m api.Model, id int, concept string) (api.Model, api.Errno) {
	m.Nodes = slices.Clone(m.Nodes)
	i := slices.IndexFunc(m.Nodes, func(n api.Node) bool { return n.ID == id })
	if i < 0 {
		return m, api.ErrNoNode
	}
	m.Nodes[i].Concept = concept
	return m, api.OK
}

// otherwise are the IDs of the nodes that one of the two has, or that are unlike in them.
func otherwise(a, b api.Model) []int {
	var out []int
	for id := 1; id < max(a.Next, b.Next); id++ {
		x, in := slow{m: a}.node(id)
		y, there := slow{m: b}.node(id)
		if in != there || !arena.Same(modelOf(0, x), modelOf(0, y)) {
			out = append(out, id)
		}
	}
	return out
}

// mixed are the IDs in any order, some of them twice.
func (g gardener) mixed(ids []int) []int {
	for range g.IntN(3) {
		if len(ids) > 0 {
			ids = append(ids, pick(g.dice, ids...))
		}
	}
	g.Shuffle(len(ids), func(i, k int) { ids[i], ids[k] = ids[k], ids[i] })
	return ids
}

// A tally counts what came before it.
type tally struct {
	marks  map[api.Errno]int
	events map[string]int
}

func newTally() tally { return tally{map[api.Errno]int{}, map[string]int{}} }

// take counts what a change has done to the nodes.
func (c tally) take(a, b api.Model, touched []int) {
	for _, id := range touched {
		x, in := slow{m: a}.node(id)
		y, there := slow{m: b}.node(id)
		switch {
		case !in && there:
			c.events["came"]++
		case in && !there:
			c.events["went"]++
		case x.Parent != y.Parent:
			c.events["moved"]++
		case x.Concept != "?Kept" && y.Concept == "?Kept" && len(y.Kids) > 0:
			c.events["wrapped"]++
		case x.Concept == "?Kept" && y.Concept != "?Kept" && len(y.Kids) > 0:
			c.events["unwrapped"]++
		}
	}
}

func (c tally) enough(t *testing.T, least int) {
	t.Helper()
	for _, e := range []api.Errno{50, 60, 61, 62, 63, 64, 65, 66, 67} {
		if c.marks[e] < least {
			t.Errorf("%d marks %d", c.marks[e], e)
		}
	}
	for _, what := range []string{"came", "went", "moved", "wrapped", "unwrapped"} {
		if c.events[what] < least {
			t.Errorf("%d nodes %s", c.events[what], what)
		}
	}
}

// P6.1, P6.2, P6.5: many changes, one behind the other; the marks that were, brought up to date, against those of the whole model, and against the slow ones.
func TestWalks(t *testing.T) {
	count := newTally()
	for seed := range uint64(320) {
		g := gardener{dice: newDice(seed)}
		ls := g.languages()
		g.table = tableOf(t, ls...)
		m := arena.New()
		var marks []api.Mark
		for step := range 120 {
			was := m
			for range 1 + g.IntN(3) {
				m = g.changed(m)
			}
			touched := otherwise(was, m)
			count.take(was, m, touched)
			again, e := conform.Again(g.table, m, marks, g.mixed(touched))
			whole, ok := conform.Marks(g.table, m)
			if want := (slow{ls, m}).marks(); e != api.OK || ok != api.OK || !slices.Equal(whole, want) || !slices.Equal(again, want) {
				t.Fatalf("walk %d, step %d: %+v: %v, again %v (touched %v), not %v", seed, step, m, whole, again, touched, want)
			}
			marks = again
			for _, x := range marks {
				count.marks[x.Err]++
			}
		}
	}
	count.enough(t, 300)
}

// P6.2, P6.4: marks that were, and IDs that were touched, of any kind, against the slow ones.
func TestAnyOld(t *testing.T) {
	fresh, taken := 0, 0
	for seed := range uint64(400) {
		g := gardener{dice: newDice(seed + 1000)}
		ls := g.languages()
		g.table = tableOf(t, ls...)
		m := arena.New()
		for range 60 {
			m = g.changed(m)
		}
		s := slow{ls, m}
		for id := range m.Next + 1 {
			l, e := conform.At(g.table, m, id)
			if _, there := s.node(id); !there && (e != api.ErrNoNode || len(l) > 0) || there && (e != api.OK || !slices.Equal(l, s.at(id))) {
				t.Fatalf("walk %d, at %d: %v, %d", seed, id, l, e)
			}
		}
		for range 10 {
			var old []api.Mark
			var touched []int
			for range g.IntN(40) {
				old = append(old, api.Mark{Node: g.IntN(m.Next+3) - 1, Name: pick(g.dice, "a", "b", ""), Err: api.Errno(g.IntN(99))})
			}
			for range g.IntN(5) {
				touched = append(touched, g.IntN(m.Next+3)-1)
			}
			want := s.again(old, touched)
			if l, e := conform.Again(g.table, m, old, touched); e != api.OK || !slices.Equal(l, want) {
				t.Fatalf("walk %d: again of %+v, old %v, touched %v: %v, %d, not %v", seed, m, old, touched, l, e, want)
			}
			for _, x := range want {
				if slices.Contains(old, x) {
					taken++
				} else {
					fresh++
				}
			}
		}
	}
	if fresh < 5000 || taken < 5000 {
		t.Errorf("%d marks anew, %d as they were", fresh, taken)
	}
}

// P6.6: what is changed at and below wrappers changes no mark, where nobody outside has a reference to it; and marks are at nodes that there are.
func TestBelowWrappers(t *testing.T) {
	done := 0
	for seed := range uint64(300) {
		g := gardener{dice: newDice(seed + 2000)}
		ls := g.languages()
		g.table = tableOf(t, ls...)
		m := arena.New()
		for range 60 {
			m = g.changed(m)
		}
		want, _ := conform.Marks(g.table, m)
		for range 60 {
			out := g.changed(m)
			if !hidden(m, out) {
				continue
			}
			done++
			m = out
			if l, e := conform.Marks(g.table, m); e != api.OK || !slices.Equal(l, want) {
				t.Fatalf("walk %d: %+v: %v, %d, not %v", seed, m, l, e, want)
			}
		}
		for _, x := range want {
			if _, ok := (slow{m: m}).node(x.Node); !ok || (slow{m: m}).wrapped(x.Node) {
				t.Fatalf("walk %d: %+v: a mark at %d", seed, m, x.Node)
			}
		}
	}
	if done < 1000 {
		t.Errorf("%d changes", done)
	}
}

// hidden tells whether the change was one at or below wrappers, of nothing that anybody outside has a reference to.
func hidden(was, is api.Model) bool {
	a, b := slow{m: was}, slow{m: is}
	ids := otherwise(was, is)
	for _, id := range ids {
		x, in := a.node(id)
		y, there := b.node(id)
		if in && !a.wrapped(id) || there && !b.wrapped(id) {
			return false
		}
		// The wrappers that are the outermost ones stay as they are to those above them.
		if in && there && (x.Concept != y.Concept || x.Parent != y.Parent || x.Role != y.Role) && !a.wrapped(x.Parent) {
			return false
		}
		if in != there && !a.wrapped(x.Parent) && !b.wrapped(y.Parent) {
			return false
		}
		for _, user := range arena.Users(was, id) {
			if !a.wrapped(user) {
				return false
			}
		}
	}
	return len(ids) > 0
}
