package meta_test

import (
	"slices"
	"testing"

	"topiary/api"
	"topiary/lang"
	"topiary/meta"
)

// A maker makes languages that may be together, of names that its dice picks.
type maker struct {
	dice
	names []string // the concepts', the ones above ahead
	ls    []api.Language
}

// mend drops, of the languages, what may not be, so that they may be together.
func (m *maker) mend() {
	for {
		f := slow(m.ls).fault()
		if f.Err == api.OK {
			return
		}
		l := &m.ls[f.In/10]
		switch f.In % 10 {
		case 2:
			dropPart(&l.Concepts[f.At], f.Part)
		case 3:
			l.Rules = slices.Delete(l.Rules, f.At, f.At+1)
		case 4:
			l.Equations = slices.Delete(l.Equations, f.At, f.At+1)
		case 5:
			l.Editors = slices.Delete(l.Editors, f.At, f.At+1)
		case 6:
			l.Templates = slices.Delete(l.Templates, f.At, f.At+1)
		default:
			panic("no way to mend it")
		}
	}
}

func dropPart(c *api.Concept, part int) {
	i := part - 1
	if i < len(c.Props) {
		c.Props = slices.Delete(c.Props, i, i+1)
		return
	}
	i -= len(c.Props)
	if i < len(c.Kids) {
		c.Kids = slices.Delete(c.Kids, i, i+1)
		return
	}
	i -= len(c.Kids)
	c.Refs = slices.Delete(c.Refs, i, i+1)
}

func (m *maker) concept(name, super string) api.Concept {
	c := api.Concept{Name: name, Super: super, Abstract: m.IntN(4) == 0}
	for range m.IntN(3) {
		c.Props = append(c.Props, api.PropDef{Name: "p" + nth(m.IntN(30)), Type: 1 + m.IntN(4)})
	}
	for range m.IntN(3) {
		c.Kids = append(c.Kids, api.KidDef{Role: "k" + nth(m.IntN(30)), Concept: pick(m.dice, m.names...), Min: m.IntN(2), Max: m.IntN(2)})
	}
	for range m.IntN(3) {
		c.Refs = append(c.Refs, api.RefDef{Role: pick(m.dice, roles[:6]...), Concept: pick(m.dice, m.names...), Need: m.IntN(2) == 0})
	}
	return c
}

// made are languages that may be together.
func made(d dice) []api.Language {
	m := maker{dice: d, names: []string{"A", "B", "C", "D", "E", "F", "G", "a", "b"}}
	d.Shuffle(len(m.names), func(i, k int) { m.names[i], m.names[k] = m.names[k], m.names[i] })
	m.names = m.names[:1+d.IntN(len(m.names))]
	for i := range 1 + d.IntN(4) {
		m.ls = append(m.ls, api.Language{Name: string(rune('a' + i)), Version: 1 + d.IntN(3)})
	}
	for i, name := range m.names {
		super := ""
		if i > 0 && d.IntN(4) > 0 {
			super = m.names[d.IntN(i)]
		}
		l := &pick(d, m.places()...).Concepts
		*l = slices.Insert(*l, d.IntN(len(*l)+1), m.concept(name, super))
	}
	for range d.IntN(12) {
		l := pick(d, m.places()...)
		l.Rules = append(l.Rules, api.Rule{Concept: pick(d, m.names...), Name: pick(d, roles[:9]...), Scope: d.IntN(2) == 0, Expr: nth(d.IntN(100))})
	}
	for range d.IntN(8) {
		l := pick(d, m.places()...)
		l.Equations = append(l.Equations, equation(pick(d, m.names...), nth(d.IntN(100))))
	}
	for range d.IntN(6) {
		l := pick(d, m.places()...)
		l.Editors = append(l.Editors, api.Editor{Concept: pick(d, m.names...), Cells: rowOf(d.IntN(4), func(i int) api.Cell { return api.Cell{Kind: 1 + i, Text: nth(d.IntN(100))} })})
		l = pick(d, m.places()...)
		l.Templates = append(l.Templates, api.Template{Concept: pick(d, m.names...), Pieces: rowOf(d.IntN(4), func(i int) api.Piece { return api.Piece{Kind: 1 + i, Mark: nth(d.IntN(100))} })})
	}
	m.mend()
	return m.ls
}

// places are the languages, so that one may be picked and changed.
func (m *maker) places() []*api.Language {
	var out []*api.Language
	for i := range m.ls {
		out = append(out, &m.ls[i])
	}
	return out
}

// naming are all places of languages in which a concept is named that something is of, or for; but their Supers.
func naming(ls []api.Language) []*string {
	var out []*string
	for i := range ls {
		l := &ls[i]
		for k := range l.Concepts {
			c := &l.Concepts[k]
			for j := range c.Kids {
				out = append(out, &c.Kids[j].Concept)
			}
			for j := range c.Refs {
				out = append(out, &c.Refs[j].Concept)
			}
		}
		for k := range l.Rules {
			out = append(out, &l.Rules[k].Concept)
		}
		for k := range l.Equations {
			out = append(out, &l.Equations[k].Concept)
		}
		for k := range l.Editors {
			out = append(out, &l.Editors[k].Concept)
		}
		for k := range l.Templates {
			out = append(out, &l.Templates[k].Concept)
		}
	}
	return out
}

// texts are all places of languages in which a text stands that is a name, or may be one.
func texts(ls []api.Language) []*string {
	out := naming(ls)
	for i := range ls {
		l := &ls[i]
		out = append(out, &l.Name)
		for k := range l.Concepts {
			c := &l.Concepts[k]
			out = append(out, &c.Name, &c.Super, &c.Super, &c.Super)
			for j := range c.Props {
				out = append(out, &c.Props[j].Name)
			}
			for j := range c.Kids {
				out = append(out, &c.Kids[j].Role)
			}
			for j := range c.Refs {
				out = append(out, &c.Refs[j].Role)
			}
		}
		for k := range l.Rules {
			out = append(out, &l.Rules[k].Name)
		}
	}
	return out
}

// spoil changes some texts of languages, turns rules into scopes and back, and puts a language twice.
func spoil(d dice, ls []api.Language) []api.Language {
	all := texts(ls)
	for range d.IntN(3) {
		if d.IntN(2) == 0 {
			*pick(d, all...) = *pick(d, all...)
		} else {
			*pick(d, all...) = pick(d, "none", "A", "B", "a", "r0", "to", "", "9")
		}
	}
	if l := pick(d, ls...); len(l.Rules) > 0 && d.IntN(3) == 0 {
		r := &l.Rules[d.IntN(len(l.Rules))]
		r.Scope = !r.Scope
	}
	if d.IntN(20) == 0 {
		ls = append(ls, pick(d, ls...))
	}
	return ls
}

// P5.1 to P5.6: languages of all shapes, right ones and wrong ones, held against the slow table.
func TestWalks(t *testing.T) {
	right, wrong := 0, map[api.Fault]int{}
	for seed := range uint64(6000) {
		d := newDice(seed)
		ls := made(d)
		if d.IntN(5) > 0 {
			ls = spoil(d, ls)
		}
		f := slow(ls).fault()
		tells(t, "a walk", ls, f)
		if f.Err == api.OK {
			right++
		} else {
			wrong[api.Fault{In: f.In % 10, Part: min(f.Part, 1), Err: f.Err}]++
		}
	}
	if right < 1500 {
		t.Errorf("%d right ones", right)
	}
	for _, f := range []api.Fault{
		{Err: api.ErrTwice}, {In: 2, Err: api.ErrTwice}, {In: 2, Err: api.ErrUnknown}, {In: 2, Err: api.ErrRing}, {In: 2, Part: 1, Err: api.ErrTwice}, {In: 2, Part: 1, Err: api.ErrUnknown},
		{In: 3, Err: api.ErrUnknown}, {In: 3, Err: api.ErrTwice}, {In: 4, Err: api.ErrUnknown}, {In: 5, Err: api.ErrUnknown}, {In: 5, Err: api.ErrTwice}, {In: 6, Err: api.ErrUnknown}, {In: 6, Err: api.ErrTwice},
	} {
		if wrong[f] < 8 {
			t.Errorf("%v: %d times", f, wrong[f])
		}
	}
}

// begins tells whether a list begins with another one.
func begins[E any](l, head []E) bool { return len(l) >= len(head) && isSame(l[:len(head)], head) }

// P5.7: Below is an order.
func TestOrder(t *testing.T) {
	above := 0
	for seed := range uint64(500) {
		m, _ := meta.New(made(newDice(seed)))
		names := append(m.Concepts(), "none", "")
		for _, a := range names {
			if !m.Below(a, a) {
				t.Fatalf("%q is not below itself", a)
			}
			for _, b := range names {
				if a != b && m.Below(a, b) {
					above++
					if m.Below(b, a) {
						t.Fatalf("%q and %q are each below the other", a, b)
					}
				}
				for _, c := range names {
					if m.Below(a, b) && m.Below(b, c) && !m.Below(a, c) {
						t.Fatalf("%q is below %q, that below %q", a, b, c)
					}
				}
			}
		}
	}
	if above < 1000 {
		t.Errorf("%d below others", above)
	}
}

// P5.8: a concept has first all that each one has that it is below.
func TestAll(t *testing.T) {
	had := 0
	for seed := range uint64(800) {
		m, _ := meta.New(made(newDice(seed)))
		for _, a := range m.Concepts() {
			for _, b := range m.Concepts() {
				if a == b || !m.Below(a, b) {
					continue
				}
				low, high := toldOf(m, a), toldOf(m, b)
				if !begins(low.Concept.Props, high.Concept.Props) || !begins(low.Concept.Kids, high.Concept.Kids) || !begins(low.Concept.Refs, high.Concept.Refs) {
					t.Fatalf("the parts of %s and of %s above it: %+v and %+v", a, b, low, high)
				}
				if !begins(low.Rules, high.Rules) || !begins(low.Equal, high.Equal) || high.Edited && !low.Edited || high.Template && !low.Template {
					t.Fatalf("what is told of %s and of %s above it: %+v and %+v", a, b, low, high)
				}
				for i, s := range high.Scopes {
					if s.Scope && !low.Scopes[i].Scope {
						t.Fatalf("the scopes of %s and of %s above it: %+v and %+v", a, b, low, high)
					}
				}
				had += min(len(high.Concept.Refs), 1) + min(len(high.Rules), 1) + min(len(high.Equal), 1)
			}
		}
	}
	if had < 1500 {
		t.Errorf("%d things had", had)
	}
}

// loose is what is told, the rules and equations in an order that hangs on themselves alone.
func loose(t told) told {
	slices.SortFunc(t.Rules, func(a, b api.Rule) int {
		return slices.Compare([]string{a.Concept, a.Name, a.Expr}, []string{b.Concept, b.Name, b.Expr})
	})
	slices.SortFunc(t.Equal, func(a, b api.Equation) int {
		return slices.Compare([]string{a.Concept, a.Right[0].Name}, []string{b.Concept, b.Right[0].Name})
	})
	return t
}

// P5.9: the same languages in another order.
func TestAnyOrder(t *testing.T) {
	otherwise := 0
	for seed := range uint64(1000) {
		d := newDice(seed)
		ls := made(d)
		m, _ := meta.New(ls)
		turned := slices.Clone(ls)
		d.Shuffle(len(turned), func(i, k int) { turned[i], turned[k] = turned[k], turned[i] })
		n := tells(t, "another order", turned, api.Fault{})
		if !slices.Equal(m.Concepts(), n.Concepts()) {
			t.Fatalf("Concepts %q and %q", m.Concepts(), n.Concepts())
		}
		for _, a := range m.Concepts() {
			one, other := toldOf(m, a), toldOf(n, a)
			if !isSame(one, other) {
				otherwise++
			}
			if !isSame(loose(one), loose(other)) {
				t.Fatalf("of %s: %+v, in another order %+v", a, one, other)
			}
			for _, b := range m.Concepts() {
				if m.Below(a, b) != n.Below(a, b) {
					t.Fatalf("Below of %s and %s, in another order", a, b)
				}
			}
		}
	}
	if otherwise < 100 {
		t.Errorf("%d told otherwise", otherwise)
	}
}

// parted makes languages of which no other one names a concept of the last one, which tells nothing of theirs.
func parted(d dice) []api.Language {
	m := maker{dice: d, ls: made(d)}
	l, last := m.ls[:len(m.ls)-1], &m.ls[len(m.ls)-1]
	own, others := lang.Names(*last), append(slow(l).concepts(), "none")
	for i := range l {
		for k := range l[i].Concepts {
			if c := &l[i].Concepts[k]; slices.Contains(own, c.Super) {
				c.Super = ""
			}
		}
	}
	for _, text := range naming(l) {
		if slices.Contains(own, *text) {
			*text = pick(d, others...)
		}
	}
	foreign := func(c string) bool { return !slices.Contains(own, c) }
	last.Rules = slices.DeleteFunc(last.Rules, func(r api.Rule) bool { return foreign(r.Concept) })
	last.Equations = slices.DeleteFunc(last.Equations, func(q api.Equation) bool { return foreign(q.Concept) })
	last.Editors = slices.DeleteFunc(last.Editors, func(e api.Editor) bool { return foreign(e.Concept) })
	last.Templates = slices.DeleteFunc(last.Templates, func(e api.Template) bool { return foreign(e.Concept) })
	m.mend()
	return m.ls
}

// P5.9: without the last language, where no other one names its concepts, and it tells nothing of theirs.
func TestWithoutLast(t *testing.T) {
	asked := 0
	for seed := range uint64(1000) {
		ls := parted(newDice(seed))
		l := ls[:len(ls)-1]
		m := tells(t, "with the last one", ls, api.Fault{})
		n := tells(t, "without the last one", l, api.Fault{})
		for _, a := range n.Concepts() {
			asked += len(m.Concepts()) - len(n.Concepts())
			if one, other := toldOf(m, a), toldOf(n, a); !isSame(one, other) {
				t.Fatalf("of %s: %+v, without the last one %+v", a, one, other)
			}
			for _, b := range n.Concepts() {
				if m.Below(a, b) != n.Below(a, b) {
					t.Fatalf("Below of %s and %s, without the last one", a, b)
				}
			}
		}
	}
	if asked < 1000 {
		t.Errorf("%d concepts asked", asked)
	}
}
