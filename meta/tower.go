package meta

import (
	"slices"
	"strings"

	"topiary/api"
)

// none is the place of what isn't there.
const none = -1

// A tower is the concepts of some languages, by rising names.
type tower struct {
	names    []string
	concepts []concept
}

// A concept is what the languages tell of one, without what it has of its Super.
type concept struct {
	def       api.Concept
	lang      string
	super     int
	scopes    []api.Rule
	rules     []api.Rule
	equations []api.Equation
	editor    *api.Editor
	template  *api.Template
}

// bits are places in a tower.
type bits [api.MaxConcepts / 64]uint64

func (b *bits) add(at int) { b[at/64] |= 1 << (at % 64) }

func (b *bits) has(at int) bool { return b[at/64]>>(at%64)&1 == 1 }

// find answers the place of the concept of that name.
func (t *tower) find(name string) int {
	at, ok := slices.BinarySearch(t.names, name)
	if !ok {
		return none
	}
	return at
}

// sort puts the concepts in their order, and finds their Supers.
func (t *tower) sort() {
	slices.SortFunc(t.concepts, func(a, b concept) int { return strings.Compare(a.def.Name, b.def.Name) })
	for _, c := range t.concepts {
		t.names = append(t.names, c.def.Name)
	}
	for i, c := range t.concepts {
		t.concepts[i].super = t.find(c.def.Super)
	}
}

// ringed tells whether a concept is above itself.
func (t *tower) ringed(at int) bool {
	up := t.concepts[at].super
	// Above a concept that hangs below a ring there is no end; but a ring has no more concepts than there are.
	for range t.concepts {
		if up == none || up == at {
			break
		}
		up = t.concepts[up].super
	}
	return up == at
}

// gather answers, in new memory, what the concepts above one have, the farthest ahead, and behind it what that one has.
func gather[E any](t *tower, at int, of func(c *concept) []E) []E {
	if at == none {
		return nil
	}
	c := &t.concepts[at]
	return append(gather(t, c.super, of), of(c)...)
}

// nearest answers what the concept of that name has, or, if it has none, the nearest one above it that has.
func nearest[E any](t *tower, name string, of func(c *concept) *E) *E {
	for at := t.find(name); at != none; at = t.concepts[at].super {
		if x := of(&t.concepts[at]); x != nil {
			return x
		}
	}
	return nil
}

// own answers the list in memory of its own.
func own[E any](l []E) []E {
	return append([]E(nil), l...)
}

func ownConcept(c api.Concept) api.Concept {
	c.Props, c.Kids, c.Refs = own(c.Props), own(c.Kids), own(c.Refs)
	return c
}

func ownEquation(q api.Equation) api.Equation {
	q.Left, q.Right = ownSide(q.Left), ownSide(q.Right)
	return q
}

func ownSide(l []api.Side) []api.Side {
	out := own(l)
	for i, s := range out {
		out[i].Args = own(s.Args)
	}
	return out
}
