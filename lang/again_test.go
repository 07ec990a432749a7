package lang_test

import (
	"math/rand/v2"
	"reflect"
	"regexp"
	"slices"
	"strings"

	"topiary/api"
)

// The chapter's words, written once more, as a list of all that may be wrong and as slowly as one likes, so that the tests hold the package against something else than itself.

var nameShape = regexp.MustCompile(`^[A-Za-z][A-Za-z0-9_]{0,31}$`)

func isName(s string) bool { return nameShape.MatchString(s) && !strings.HasSuffix(s, "\n") }

// A list of what was asked, in the chapter's order.
type asked []struct {
	f     api.Fault
	holds bool
}

func (a *asked) ask(in, at, part int, e api.Errno, holds bool) {
	*a = append(*a, struct {
		f     api.Fault
		holds bool
	}{api.Fault{In: in, At: at, Part: part, Err: e}, holds})
}

// firstFault is the fault of the first thing that does not hold.
func firstFault(l api.Language) api.Fault {
	var a asked
	a.ask(0, 0, 0, api.ErrArg, isName(l.Name))
	a.ask(0, 1, 0, api.ErrArg, l.Version >= 1)
	for i, u := range l.Uses {
		a.ask(1, i, 0, api.ErrFull, i < 8)
		a.ask(1, i, 0, api.ErrArg, isName(u))
		a.ask(1, i, 0, api.ErrTwice, u != l.Name)
		a.ask(1, i, 0, api.ErrTwice, slices.Index(l.Uses, u) == i)
	}
	for i, c := range l.Concepts {
		a.ask(2, i, 0, api.ErrFull, i < 128)
		a.ask(2, i, 0, api.ErrArg, isName(c.Name))
		for _, ahead := range l.Concepts[:i] {
			a.ask(2, i, 0, api.ErrTwice, ahead.Name != c.Name)
		}
		a.ask(2, i, 0, api.ErrArg, c.Super == "" || isName(c.Super))
		a.ask(2, i, 0, api.ErrRing, c.Super != c.Name)
		a.askParts(i, c)
	}
	a.askRules(l)
	a.askEquations(l)
	a.askRows(l)
	for _, q := range a {
		if !q.holds {
			return q.f
		}
	}
	return api.Fault{}
}

func (a *asked) askRules(l api.Language) {
	for i, r := range l.Rules {
		a.ask(3, i, 0, api.ErrFull, i < 256)
		a.ask(3, i, 0, api.ErrArg, isName(r.Concept) && isName(r.Name))
		for _, ahead := range l.Rules[:i] {
			ahead.Expr = r.Expr
			a.ask(3, i, 0, api.ErrTwice, ahead != r)
		}
		a.ask(3, i, 0, api.ErrLong, len(r.Expr) <= 4096)
	}
}

func (a *asked) askEquations(l api.Language) {
	for i, q := range l.Equations {
		a.ask(4, i, 0, api.ErrFull, i < 256)
		a.ask(4, i, 0, api.ErrArg, isName(q.Concept))
		for part, side := range [][]api.Side{nil, q.Left, q.Right} {
			if part > 0 {
				a.ask(4, i, part, api.ErrFull, len(side) <= 64)
				a.ask(4, i, part, api.ErrArg, isTree(side) && !slices.ContainsFunc(side, isBad))
			}
		}
	}
}

func (a *asked) askRows(l api.Language) {
	for i, w := range l.Editors {
		a.ask(5, i, 0, api.ErrFull, i < 256)
		a.ask(5, i, 0, api.ErrArg, isName(w.Concept))
		for _, ahead := range l.Editors[:i] {
			a.ask(5, i, 0, api.ErrTwice, ahead.Concept != w.Concept)
		}
		a.ask(5, i, 65, api.ErrFull, len(w.Cells) <= 64)
		for k, c := range w.Cells {
			a.ask(5, i, k+1, api.ErrArg, slices.Contains([]int{1, 2, 3, 4, 5, 6}, c.Kind))
			a.ask(5, i, k+1, api.ErrLong, len(c.Text+c.Mark) <= 4096)
		}
	}
	for i, w := range l.Templates {
		a.ask(6, i, 0, api.ErrFull, i < 256)
		a.ask(6, i, 0, api.ErrArg, isName(w.Concept))
		for _, ahead := range l.Templates[:i] {
			a.ask(6, i, 0, api.ErrTwice, ahead.Concept != w.Concept)
		}
		a.ask(6, i, 65, api.ErrFull, len(w.Pieces) <= 64)
		for k, p := range w.Pieces {
			a.ask(6, i, k+1, api.ErrArg, slices.Contains([]int{1, 2, 3, 4, 5}, p.Kind))
			a.ask(6, i, k+1, api.ErrLong, len(p.Text+p.Mark) <= 4096)
		}
	}
}

func (a *asked) askParts(at int, c api.Concept) {
	part := 0
	for i, p := range c.Props {
		part++
		a.ask(2, at, part, api.ErrFull, i < 32)
		a.ask(2, at, part, api.ErrArg, isName(p.Name))
		for _, ahead := range c.Props[:i] {
			a.ask(2, at, part, api.ErrTwice, ahead.Name != p.Name)
		}
		a.ask(2, at, part, api.ErrType, slices.Contains([]int{1, 2, 3, 4}, p.Type))
	}
	for i, k := range c.Kids {
		part++
		a.ask(2, at, part, api.ErrFull, i < 32)
		a.ask(2, at, part, api.ErrArg, isName(k.Role) && isName(k.Concept))
		for _, ahead := range c.Kids[:i] {
			a.ask(2, at, part, api.ErrTwice, ahead.Role != k.Role)
		}
		a.ask(2, at, part, api.ErrCard, k.Min == 0 || k.Min == 1)
		a.ask(2, at, part, api.ErrCard, k.Max == 0 || k.Max == 1)
	}
	for i, r := range c.Refs {
		part++
		a.ask(2, at, part, api.ErrFull, i < 32)
		a.ask(2, at, part, api.ErrArg, isName(r.Role) && isName(r.Concept))
		for _, ahead := range c.Refs[:i] {
			a.ask(2, at, part, api.ErrTwice, ahead.Role != r.Role)
		}
	}
}

// isBad tells whether an element of a side may not be.
func isBad(s api.Side) bool {
	switch s.Kind {
	case 1:
		return s.Name != "" || s.Num != 0 || len(s.Args) > 0
	case 2:
		return !isName(s.Name) || s.Num < 0 || len(s.Args) > 0
	case 3, 5:
		return !isName(s.Name) || s.Num != 0 || len(s.Args) > 0
	case 4:
		return !isName(s.Name) || s.Num != 0
	}
	return true
}

func isTree(l []api.Side) bool {
	for i := 1; i < len(l); i++ {
		in := 0
		for _, s := range l {
			if slices.Contains(s.Args, i) {
				in++
			}
		}
		if in != 1 {
			return false
		}
	}
	var met []int
	var meet func(i int)
	meet = func(i int) {
		met = append(met, i)
		// What is met in a ring is met for ever.
		if i < 0 || i >= len(l) || len(met) > len(l) {
			return
		}
		for _, a := range l[i].Args {
			meet(a)
		}
	}
	meet(0)
	var inOrder []int
	for i := range l {
		inOrder = append(inOrder, i)
	}
	return len(l) > 0 && slices.Equal(met, inOrder)
}

// isSame holds two definitions against each other, whatever fields they have; nil lists and empty ones are the same.
func isSame(a, b api.Language) bool { return reflect.DeepEqual(clone(a), clone(b)) }

// clone is the definition in memory of its own, without spare room; its empty lists are nil.
func clone(l api.Language) api.Language {
	l.Uses = listOf(l.Uses)
	l.Concepts = listOf(l.Concepts)
	for i, c := range l.Concepts {
		l.Concepts[i].Props, l.Concepts[i].Kids, l.Concepts[i].Refs = listOf(c.Props), listOf(c.Kids), listOf(c.Refs)
	}
	l.Rules = listOf(l.Rules)
	l.Equations = listOf(l.Equations)
	for i, q := range l.Equations {
		l.Equations[i].Left, l.Equations[i].Right = sideOf(q.Left), sideOf(q.Right)
	}
	l.Editors = listOf(l.Editors)
	for i, w := range l.Editors {
		l.Editors[i].Cells = listOf(w.Cells)
	}
	l.Templates = listOf(l.Templates)
	for i, w := range l.Templates {
		l.Templates[i].Pieces = listOf(w.Pieces)
	}
	return l
}

func listOf[E any](l []E) []E {
	if len(l) == 0 {
		return nil
	}
	out := make([]E, len(l))
	copy(out, l)
	return out
}

func sideOf(l []api.Side) []api.Side {
	out := listOf(l)
	for i, s := range out {
		out[i].Args = listOf(s.Args)
	}
	return out
}

// without is the list, in memory of its own, with one element less.
func without[E any](l []E, i int) []E { return append(listOf(l[:i]), l[i+1:]...) }

// lesser are the definitions with one element less of one of the lists; not of the sides, whose elements are one thing.
func lesser(l api.Language) []api.Language {
	var out []api.Language
	less := func(n int, drop func(c *api.Language, i int)) {
		for i := range n {
			c := clone(l)
			drop(&c, i)
			out = append(out, c)
		}
	}
	less(len(l.Uses), func(c *api.Language, i int) { c.Uses = without(c.Uses, i) })
	less(len(l.Concepts), func(c *api.Language, i int) { c.Concepts = without(c.Concepts, i) })
	less(len(l.Rules), func(c *api.Language, i int) { c.Rules = without(c.Rules, i) })
	less(len(l.Equations), func(c *api.Language, i int) { c.Equations = without(c.Equations, i) })
	less(len(l.Editors), func(c *api.Language, i int) { c.Editors = without(c.Editors, i) })
	less(len(l.Templates), func(c *api.Language, i int) { c.Templates = without(c.Templates, i) })
	for at, of := range l.Concepts {
		less(len(of.Props), func(c *api.Language, i int) { c.Concepts[at].Props = without(of.Props, i) })
		less(len(of.Kids), func(c *api.Language, i int) { c.Concepts[at].Kids = without(of.Kids, i) })
		less(len(of.Refs), func(c *api.Language, i int) { c.Concepts[at].Refs = without(of.Refs, i) })
	}
	for at, of := range l.Editors {
		less(len(of.Cells), func(c *api.Language, i int) { c.Editors[at].Cells = without(of.Cells, i) })
	}
	for at, of := range l.Templates {
		less(len(of.Pieces), func(c *api.Language, i int) { c.Templates[at].Pieces = without(of.Pieces, i) })
	}
	return out
}

// ended is the definition with only the first n elements of one of the lists, all lists behind it being empty.
func ended(l api.Language, in, n int) api.Language {
	c := clone(l)
	switch in {
	case 1:
		c.Uses, c.Concepts, c.Rules, c.Equations, c.Editors, c.Templates = c.Uses[:n], nil, nil, nil, nil, nil
	case 2:
		c.Concepts, c.Rules, c.Equations, c.Editors, c.Templates = c.Concepts[:n], nil, nil, nil, nil
	case 3:
		c.Rules, c.Equations, c.Editors, c.Templates = c.Rules[:n], nil, nil, nil
	case 4:
		c.Equations, c.Editors, c.Templates = c.Equations[:n], nil, nil
	case 5:
		c.Editors, c.Templates = c.Editors[:n], nil
	case 6:
		c.Templates = c.Templates[:n]
	}
	return c
}

// A dice throws the same on every run.
type dice struct{ *rand.Rand }

func newDice(seed uint64) dice { return dice{rand.New(rand.NewPCG(seed, 4))} }

func pick[E any](d dice, l ...E) E { return l[d.IntN(len(l))] }
