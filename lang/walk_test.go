package lang_test

import (
	"math"
	"slices"
	"strings"
	"testing"

	"topiary/api"
	"topiary/lang"
)

// goesOn asks P4.5 of a definition with that fault.
func goesOn(t *testing.T, l api.Language, f api.Fault) {
	t.Helper()
	if f.Err == api.OK {
		for _, less := range lesser(l) {
			if f := lang.Check(less); f != (api.Fault{}) {
				t.Errorf("%+v: no fault, but with one element less %v: %+v", l, f, less)
			}
		}
		return
	}
	if f.In == 0 {
		return
	}
	if told := lang.Check(ended(l, f.In, f.At)); told != (api.Fault{}) {
		t.Errorf("%+v: %v, but ended ahead of it %v", l, f, told)
	}
	if told := lang.Check(ended(l, f.In, f.At+1)); told != f {
		t.Errorf("%+v: %v, but ended with it %v", l, f, told)
	}
}

// A spoiler changes one thing of a definition.
type spoiler func(l *api.Language)

type spoilers []spoiler

// text, number and truth let a field have other values: such as may be, and such as may not.
func (s *spoilers) text(values []string, at func(l *api.Language) *string) {
	for _, v := range values {
		*s = append(*s, func(l *api.Language) { *at(l) = v })
	}
}

func (s *spoilers) number(at func(l *api.Language) *int) {
	for _, n := range []int{-1, 0, 1, 2, 3, 4, 5, 6, 7, math.MinInt, math.MaxInt} {
		*s = append(*s, func(l *api.Language) { *at(l) = n })
	}
}

func (s *spoilers) truth(at func(l *api.Language) *bool) {
	*s = append(*s, func(l *api.Language) { *at(l) = !*at(l) })
}

func (s *spoilers) name(at func(l *api.Language) *string) {
	s.text([]string{"", "a", "b", "v", "w", "Num", "Sum", "Far", "?v", "9", "a b", strings.Repeat("a", 32), strings.Repeat("a", 33)}, at)
}

func (s *spoilers) longer(at func(l *api.Language) *string) {
	s.text([]string{"", "x", strings.Repeat("x", 4095), strings.Repeat("x", 4096), strings.Repeat("x", 4097)}, at)
}

// fields are changes of each field of a definition.
func fields(of api.Language) []spoiler {
	var s spoilers
	s.name(func(l *api.Language) *string { return &l.Name })
	s.number(func(l *api.Language) *int { return &l.Version })
	for i := range of.Uses {
		s.name(func(l *api.Language) *string { return &l.Uses[i] })
	}
	for i, c := range of.Concepts {
		s.concept(i, c)
	}
	for i := range of.Rules {
		s.name(func(l *api.Language) *string { return &l.Rules[i].Concept })
		s.name(func(l *api.Language) *string { return &l.Rules[i].Name })
		s.truth(func(l *api.Language) *bool { return &l.Rules[i].Scope })
		s.longer(func(l *api.Language) *string { return &l.Rules[i].Expr })
	}
	for i, q := range of.Equations {
		s.equation(i, q)
	}
	for i, w := range of.Editors {
		s.name(func(l *api.Language) *string { return &l.Editors[i].Concept })
		for k := range w.Cells {
			s.number(func(l *api.Language) *int { return &l.Editors[i].Cells[k].Kind })
			s.longer(func(l *api.Language) *string { return &l.Editors[i].Cells[k].Text })
			s.longer(func(l *api.Language) *string { return &l.Editors[i].Cells[k].Mark })
		}
	}
	for i, w := range of.Templates {
		s.name(func(l *api.Language) *string { return &l.Templates[i].Concept })
		for k := range w.Pieces {
			s.number(func(l *api.Language) *int { return &l.Templates[i].Pieces[k].Kind })
			s.longer(func(l *api.Language) *string { return &l.Templates[i].Pieces[k].Text })
			s.longer(func(l *api.Language) *string { return &l.Templates[i].Pieces[k].Mark })
		}
	}
	return s
}

func (s *spoilers) concept(i int, c api.Concept) {
	s.name(func(l *api.Language) *string { return &l.Concepts[i].Name })
	s.name(func(l *api.Language) *string { return &l.Concepts[i].Super })
	s.truth(func(l *api.Language) *bool { return &l.Concepts[i].Abstract })
	for k := range c.Props {
		s.name(func(l *api.Language) *string { return &l.Concepts[i].Props[k].Name })
		s.number(func(l *api.Language) *int { return &l.Concepts[i].Props[k].Type })
	}
	for k := range c.Kids {
		s.name(func(l *api.Language) *string { return &l.Concepts[i].Kids[k].Role })
		s.name(func(l *api.Language) *string { return &l.Concepts[i].Kids[k].Concept })
		s.number(func(l *api.Language) *int { return &l.Concepts[i].Kids[k].Min })
		s.number(func(l *api.Language) *int { return &l.Concepts[i].Kids[k].Max })
	}
	for k := range c.Refs {
		s.name(func(l *api.Language) *string { return &l.Concepts[i].Refs[k].Role })
		s.name(func(l *api.Language) *string { return &l.Concepts[i].Refs[k].Concept })
		s.truth(func(l *api.Language) *bool { return &l.Concepts[i].Refs[k].Need })
	}
}

func (s *spoilers) equation(i int, q api.Equation) {
	s.name(func(l *api.Language) *string { return &l.Equations[i].Concept })
	for part, row := range [][]api.Side{q.Left, q.Right} {
		side := func(l *api.Language) []api.Side {
			return [][]api.Side{l.Equations[i].Left, l.Equations[i].Right}[part]
		}
		for k, x := range row {
			s.name(func(l *api.Language) *string { return &side(l)[k].Name })
			s.number(func(l *api.Language) *int { return &side(l)[k].Kind })
			s.number(func(l *api.Language) *int { return &side(l)[k].Num })
			for a := range x.Args {
				s.number(func(l *api.Language) *int { return &side(l)[k].Args[a] })
			}
		}
	}
}

// shapes are changes of how many elements, or Args, the sides of a definition have.
func shapes(of api.Language) []spoiler {
	var out []spoiler
	for i, q := range of.Equations {
		for part, s := range [][]api.Side{q.Left, q.Right} {
			put := func(side []api.Side) {
				out = append(out, func(l *api.Language) {
					*[]*[]api.Side{&l.Equations[i].Left, &l.Equations[i].Right}[part] = sideOf(side)
				})
			}
			with := func(k int, args []int) {
				side := sideOf(s)
				side[k].Args = args
				put(side)
			}
			for k, x := range s {
				put(without(s, k))
				put(slices.Insert(listOf(s), k, x))
				with(k, append(listOf(x.Args), 1))
				for a := range x.Args {
					with(k, without(x.Args, a))
					with(k, slices.Insert(listOf(x.Args), a, x.Args[a]))
				}
			}
		}
	}
	return out
}

// P4.1, P4.2, P4.5: a definition with each thing changed.
func TestOneChange(t *testing.T) {
	right, wrong := 0, map[api.Fault]int{}
	for _, spoil := range append(fields(whole()), shapes(whole())...) {
		l := clone(whole())
		spoil(&l)
		f := firstFault(l)
		if told := lang.Check(l); told != f {
			t.Fatalf("Check(%+v): %v, not %v", l, told, f)
		}
		goesOn(t, l, f)
		same := isSame(l, whole())
		if lang.Same(l, whole()) != same || lang.Same(whole(), l) != same || !lang.Same(l, clone(l)) {
			t.Fatalf("Same of %+v: not %v", l, same)
		}
		if f.Err == api.OK {
			right++
		} else {
			wrong[f]++
		}
	}
	if right < 200 || len(wrong) < 80 {
		t.Errorf("%d right definitions, %d faults", right, len(wrong))
	}
}

// P4.1, P4.2, P4.5: definitions with several things changed, and lists that are ended, doubled, too long.
func TestWalks(t *testing.T) {
	field, shape := fields(whole()), shapes(whole())
	right, wrong := 0, map[api.Fault]int{}
	for seed := range uint64(20000) {
		d := newDice(seed)
		l := clone(whole())
		for range d.IntN(5) {
			pick(d, field...)(&l)
		}
		if d.IntN(8) == 0 {
			pick(d, shape...)(&l)
		}
		reshape(d, &l)
		f := firstFault(l)
		if told := lang.Check(l); told != f {
			t.Fatalf("Check(%+v): %v, not %v", l, told, f)
		}
		goesOn(t, l, f)
		if f.Err == api.OK {
			right++
		} else {
			wrong[f]++
		}
		other := clone(l)
		if d.IntN(2) == 0 {
			reshape(d, &other)
		}
		if same := isSame(l, other); lang.Same(l, other) != same || lang.Same(other, l) != same {
			t.Fatalf("Same(%+v, %+v): not %v", l, other, same)
		}
	}
	if right < 2000 || len(wrong) < 120 {
		t.Errorf("%d right definitions, %d faults", right, len(wrong))
	}
}

// reshape changes how many elements lists have, or in which order they stand.
func reshape(d dice, l *api.Language) {
	switch d.IntN(18) {
	case 0:
		l.Uses = turned(d, append(l.Uses, rowOf(d.IntN(8), nth)...))
	case 1:
		l.Concepts = turned(d, l.Concepts)
	case 2:
		l.Concepts = doubled(d, l.Concepts)
	case 3:
		l.Rules = turned(d, l.Rules)
	case 4:
		l.Rules = doubled(d, l.Rules)
	case 5:
		l.Equations = turned(d, append(l.Equations, l.Equations...))
	case 6:
		l.Editors = turned(d, l.Editors)
	case 7:
		l.Editors = doubled(d, l.Editors)
	case 8:
		l.Templates = turned(d, l.Templates)
	case 9:
		l.Templates = l.Templates[:d.IntN(len(l.Templates)+1)]
	case 10:
		l.Uses = nil
	case 11:
		for i := range l.Editors {
			l.Editors[i].Cells = append(l.Editors[i].Cells, rowOf(55+d.IntN(12), func(i int) api.Cell { return api.Cell{Kind: i%6 + 1} })...)
		}
	case 12:
		for i := range l.Templates {
			l.Templates[i].Pieces = append(l.Templates[i].Pieces, rowOf(55+d.IntN(12), func(i int) api.Piece { return api.Piece{Kind: i%5 + 1} })...)
		}
	}
}

// turned is the list, perhaps with some elements less, in another order.
func turned[E any](d dice, l []E) []E {
	out := make([]E, 0, len(l))
	for _, i := range d.Perm(len(l)) {
		out = append(out, l[i])
	}
	return out[:max(len(out)-d.IntN(2), 0)]
}

// doubled is the list with one of its elements once more, at its end.
func doubled[E any](d dice, l []E) []E {
	if len(l) == 0 {
		return nil
	}
	return append(listOf(l), pick(d, l...))
}
