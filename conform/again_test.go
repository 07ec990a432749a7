package conform_test

import (
	"math/rand/v2"
	"regexp"
	"slices"
	"strconv"

	"topiary/api"
)

// The chapter's words, written once more, on languages that are gone through anew at every question and as slowly as one likes, so that the tests hold the package against something else than itself.

// A slow is a right model, and some languages that may be together.
type slow struct {
	ls []api.Language
	m  api.Model
}

// line is a concept and what is above it, the nearest first.
func (s slow) line(name string) []api.Concept {
	for _, l := range s.ls {
		for _, c := range l.Concepts {
			if c.Name == name {
				return append([]api.Concept{c}, s.line(c.Super)...)
			}
		}
	}
	return nil
}

// below tells whether a is b, or below it.
func (s slow) below(a, b string) bool {
	return a == b || slices.ContainsFunc(s.line(a), func(c api.Concept) bool { return c.Name == b })
}

func (s slow) node(id int) (api.Node, bool) {
	for _, n := range s.m.Nodes {
		if n.ID == id {
			return n, true
		}
	}
	return api.Node{}, false
}

// under tells whether the node is that one, or below it.
func (s slow) under(id, top int) bool {
	n, ok := s.node(id)
	return ok && (id == top || s.under(n.Parent, top))
}

// wrapped tells whether the node is a wrapper, or below one.
func (s slow) wrapped(id int) bool {
	return slices.ContainsFunc(s.m.Nodes, func(n api.Node) bool { return n.Concept == "?Kept" && s.under(id, n.ID) })
}

func (s slow) order() []int {
	var out []int
	var down func(id int)
	down = func(id int) {
		out = append(out, id)
		n, _ := s.node(id)
		for _, kid := range n.Kids {
			down(kid)
		}
	}
	for _, n := range s.m.Nodes {
		if n.Parent == 0 {
			down(n.ID)
		}
	}
	return out
}

var (
	intShape  = regexp.MustCompile(`^(0|-?[1-9][0-9]*)\z`)
	nameShape = regexp.MustCompile(`^[A-Za-z][A-Za-z0-9_]{0,31}\z`)
)

func suits(kind int, value string) bool {
	switch kind {
	case 1:
		return len(value) <= 4096
	case 2:
		_, err := strconv.ParseInt(value, 10, 64)
		return err == nil && intShape.MatchString(value)
	case 3:
		return value == "true" || value == "false"
	}
	return nameShape.MatchString(value)
}

// at are the marks at a node, one look behind the other.
func (s slow) at(id int) []api.Mark {
	n, _ := s.node(id)
	line := s.line(n.Concept)
	if s.wrapped(id) {
		return nil
	}
	if len(line) == 0 {
		return []api.Mark{{Node: id, Name: n.Concept, Err: 50}}
	}
	var out []api.Mark
	if line[0].Abstract {
		out = append(out, api.Mark{Node: id, Name: n.Concept, Err: 60})
	}
	slices.Reverse(line)
	var props []api.PropDef
	var kids []api.KidDef
	var refs []api.RefDef
	for _, c := range line {
		props, kids, refs = append(props, c.Props...), append(kids, c.Kids...), append(refs, c.Refs...)
	}
	return slices.Concat(out, s.ofProps(n, props), s.ofKids(n, kids), s.ofRefs(n, refs))
}

func (s slow) ofProps(n api.Node, defs []api.PropDef) []api.Mark {
	var out []api.Mark
	for _, p := range n.Props {
		if !slices.ContainsFunc(defs, func(d api.PropDef) bool { return d.Name == p.Name && suits(d.Type, p.Value) }) {
			out = append(out, api.Mark{Node: n.ID, Name: p.Name, Err: 61})
		}
	}
	return out
}

func (s slow) ofKids(n api.Node, defs []api.KidDef) []api.Mark {
	var out []api.Mark
	var roles []string
	for _, id := range n.Kids {
		k, _ := s.node(id)
		suited := slices.ContainsFunc(defs, func(d api.KidDef) bool { return d.Role == k.Role && s.below(k.Concept, d.Concept) })
		single := slices.ContainsFunc(defs, func(d api.KidDef) bool { return d.Role == k.Role && d.Max == 1 })
		switch {
		case k.Role == "?kept":
		case !suited:
			out = append(out, api.Mark{Node: n.ID, Name: k.Role, Err: 62})
		case single && slices.Contains(roles, k.Role):
			out = append(out, api.Mark{Node: n.ID, Name: k.Role, Err: 64})
		}
		roles = append(roles, k.Role)
	}
	for _, d := range defs {
		if d.Min == 1 && !slices.Contains(roles, d.Role) {
			out = append(out, api.Mark{Node: n.ID, Name: d.Role, Err: 63})
		}
	}
	return out
}

func (s slow) ofRefs(n api.Node, defs []api.RefDef) []api.Mark {
	var out []api.Mark
	var roles []string
	for _, r := range n.Refs {
		target, there := s.node(r.Target)
		known := slices.ContainsFunc(defs, func(d api.RefDef) bool { return d.Role == r.Role })
		suited := slices.ContainsFunc(defs, func(d api.RefDef) bool { return d.Role == r.Role && s.below(target.Concept, d.Concept) })
		switch {
		case known && !there:
			out = append(out, api.Mark{Node: n.ID, Name: r.Role, Err: 66})
		case !suited:
			out = append(out, api.Mark{Node: n.ID, Name: r.Role, Err: 65})
		}
		roles = append(roles, r.Role)
	}
	for _, d := range defs {
		if d.Need && !slices.Contains(roles, d.Role) {
			out = append(out, api.Mark{Node: n.ID, Name: d.Role, Err: 67})
		}
	}
	return out
}

func (s slow) marks() []api.Mark {
	var out []api.Mark
	for _, id := range s.order() {
		out = append(out, s.at(id)...)
	}
	return out
}

func (s slow) isNear(id int, touched []int) bool {
	n, _ := s.node(id)
	return slices.ContainsFunc(touched, func(x int) bool {
		t, there := s.node(x)
		return s.under(id, x) || there && t.Parent == id || slices.ContainsFunc(n.Refs, func(r api.Ref) bool { return r.Target == x })
	})
}

func (s slow) again(old []api.Mark, touched []int) []api.Mark {
	var out []api.Mark
	for _, id := range s.order() {
		if s.isNear(id, touched) {
			out = append(out, s.at(id)...)
			continue
		}
		for _, x := range old {
			if x.Node == id {
				out = append(out, x)
			}
		}
	}
	return out
}

// A dice throws the same on every run.
type dice struct{ *rand.Rand }

func newDice(seed uint64) dice { return dice{rand.New(rand.NewPCG(seed, 6))} }

func pick[E any](d dice, l ...E) E { return l[d.IntN(len(l))] }
