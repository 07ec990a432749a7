package lang_test

import (
	"strconv"
	"strings"
	"testing"

	"topiary/api"
	"topiary/lang"
)

// rowOf is a list of n elements.
func rowOf[E any](n int, of func(i int) E) []E {
	out := make([]E, n)
	for i := range out {
		out[i] = of(i)
	}
	return out
}

func nth(i int) string { return "n" + strconv.Itoa(i) }

// A list that may have so many elements: what it is to have n of them, and the place of the one that is too many. All are right by themselves; spoil makes the one with a number wrong in every way that it can be. Of a row the number is asked ahead of its elements, of other lists at the first element too many.
type limited struct {
	what  string
	row   bool
	most  int
	full  func(l *api.Language, n int)
	spoil func(l *api.Language, i int)
	place func(i int) api.Fault
}

func limits() []limited {
	long := strings.Repeat("x", 4097)
	at := func(in int) func(i int) api.Fault {
		return func(i int) api.Fault { return api.Fault{In: in, At: i} }
	}
	part := func(in, at, ahead int) func(i int) api.Fault {
		return func(i int) api.Fault { return api.Fault{In: in, At: at, Part: ahead + i + 1} }
	}
	return []limited{
		{"Uses", false, 8, func(l *api.Language, n int) { l.Uses = rowOf(n, nth) }, func(l *api.Language, i int) { l.Uses[i] = "" }, at(1)},
		{"Concepts", false, 128, func(l *api.Language, n int) {
			l.Concepts = rowOf(n, func(i int) api.Concept { return api.Concept{Name: nth(i), Super: nth(0)[:1]} })
		}, func(l *api.Language, i int) {
			l.Concepts[i] = api.Concept{Super: "9", Props: []api.PropDef{{}}, Kids: []api.KidDef{{}}, Refs: []api.RefDef{{}}}
		}, at(2)},
		{"Props", false, 32, func(l *api.Language, n int) {
			l.Concepts[1].Props = rowOf(n, func(i int) api.PropDef { return api.PropDef{Name: nth(i), Type: 1} })
		}, func(l *api.Language, i int) { l.Concepts[1].Props[i] = api.PropDef{} }, part(2, 1, 0)},
		{"Kids", false, 32, func(l *api.Language, n int) {
			l.Concepts[0].Kids = rowOf(n, func(i int) api.KidDef { return api.KidDef{Role: nth(i), Concept: "K"} })
		}, func(l *api.Language, i int) { l.Concepts[0].Kids[i] = api.KidDef{Min: 2} }, part(2, 0, 2)},
		{"Refs", false, 32, func(l *api.Language, n int) {
			l.Concepts[0].Refs = rowOf(n, func(i int) api.RefDef { return api.RefDef{Role: nth(i), Concept: "K"} })
		}, func(l *api.Language, i int) { l.Concepts[0].Refs[i] = api.RefDef{} }, part(2, 0, 5)},
		{"Rules", false, 256, func(l *api.Language, n int) {
			l.Rules = rowOf(n, func(i int) api.Rule { return api.Rule{Concept: nth(i % 90), Name: nth(i / 180), Scope: i/90%2 > 0} })
		}, func(l *api.Language, i int) { l.Rules[i] = api.Rule{Expr: long} }, at(3)},
		{"Equations", false, 256, func(l *api.Language, n int) {
			l.Equations = rowOf(n, func(i int) api.Equation {
				return api.Equation{Concept: "K", Left: []api.Side{{Kind: 1}}, Right: []api.Side{{Kind: 1}}}
			})
		}, func(l *api.Language, i int) { l.Equations[i] = api.Equation{Left: make([]api.Side, 65)} }, at(4)},
		{"Editors", false, 256, func(l *api.Language, n int) {
			l.Editors = rowOf(n, func(i int) api.Editor { return api.Editor{Concept: nth(i)} })
		}, func(l *api.Language, i int) { l.Editors[i] = api.Editor{Cells: make([]api.Cell, 65)} }, at(5)},
		{"Cells", true, 64, func(l *api.Language, n int) {
			l.Editors[1].Cells = rowOf(n, func(i int) api.Cell { return api.Cell{Kind: i%6 + 1} })
		}, func(l *api.Language, i int) { l.Editors[1].Cells[i] = api.Cell{Text: long} }, part(5, 1, 0)},
		{"Templates", false, 256, func(l *api.Language, n int) {
			l.Templates = rowOf(n, func(i int) api.Template { return api.Template{Concept: nth(i)} })
		}, func(l *api.Language, i int) { l.Templates[i] = api.Template{Pieces: make([]api.Piece, 65)} }, at(6)},
		{"Pieces", true, 64, func(l *api.Language, n int) {
			l.Templates[2].Pieces = rowOf(n, func(i int) api.Piece { return api.Piece{Kind: i%5 + 1} })
		}, func(l *api.Language, i int) { l.Templates[2].Pieces[i] = api.Piece{Mark: long} }, part(6, 2, 0)},
	}
}

// P4.1, P4.5: so many elements of each list, and one more, which is told whatever else is wrong with it; but behind what is wrong ahead of it, if the list is no row.
func TestRoom(t *testing.T) {
	for _, c := range limits() {
		told := func(i int, e api.Errno) api.Fault {
			f := c.place(i)
			f.Err = e
			return f
		}
		of := func(n int, spoilt ...int) api.Language {
			l := whole()
			c.full(&l, n)
			for _, i := range spoilt {
				c.spoil(&l, i)
			}
			return l
		}
		asks := func(what string, l api.Language, want api.Fault) {
			t.Helper()
			tells(t, c.what+": "+what, l, want)
			goesOn(t, l, want)
		}
		asks("one less", of(c.most-1), api.Fault{})
		asks("all", of(c.most), api.Fault{})
		asks("one more", of(c.most+1), told(c.most, api.ErrFull))
		asks("many more", of(2*c.most+3), told(c.most, api.ErrFull))
		asks("the last one wrong", of(c.most, c.most-1), told(c.most-1, api.ErrArg))
		asks("one more, and that wrong", of(c.most+1, c.most), told(c.most, api.ErrFull))
		asks("two more, both wrong", of(c.most+2, c.most, c.most+1), told(c.most, api.ErrFull))
		first, last := told(0, api.ErrArg), told(c.most-1, api.ErrArg)
		if c.row {
			first, last = told(c.most, api.ErrFull), told(c.most, api.ErrFull)
		}
		asks("one more, and the first one wrong", of(c.most+1, 0), first)
		asks("one more, and the one ahead wrong", of(c.most+1, c.most-1, c.most), last)
	}
}

// P4.1: how long a row is, is asked ahead of its elements, but behind whose row it is and behind all elements of the list ahead of it.
func TestLongRows(t *testing.T) {
	long := strings.Repeat("x", 4097)
	cells := func(n int) []api.Cell { return rowOf(n, func(int) api.Cell { return api.Cell{Kind: 1} }) }
	spoilt := cells(66)
	spoilt[63].Text = long
	other := cells(64)
	other[63].Kind = 7
	for _, c := range []struct {
		rows []api.Editor
		want api.Fault
	}{
		{[]api.Editor{{Concept: "b", Cells: make([]api.Cell, 65)}}, api.Fault{Part: 65, Err: api.ErrFull}},
		{[]api.Editor{{Concept: "b", Cells: make([]api.Cell, 64)}}, api.Fault{Part: 1, Err: api.ErrArg}},
		{[]api.Editor{{Concept: "b", Cells: make([]api.Cell, 1<<16)}}, api.Fault{Part: 65, Err: api.ErrFull}},
		{[]api.Editor{{Concept: "b", Cells: spoilt}}, api.Fault{Part: 65, Err: api.ErrFull}},
		{[]api.Editor{{Concept: "b", Cells: spoilt[:64]}}, api.Fault{Part: 64, Err: api.ErrLong}},
		{[]api.Editor{{Concept: "9", Cells: spoilt}}, api.Fault{Err: api.ErrArg}},
		{[]api.Editor{{Concept: "b"}, {Concept: "b", Cells: spoilt}}, api.Fault{At: 1, Err: api.ErrTwice}},
		{[]api.Editor{{Concept: "b", Cells: other}, {Concept: "c", Cells: spoilt}}, api.Fault{Part: 64, Err: api.ErrArg}},
		{[]api.Editor{{Concept: "b", Cells: spoilt[:63]}, {Concept: "c", Cells: spoilt}, {}}, api.Fault{At: 1, Part: 65, Err: api.ErrFull}},
	} {
		l, want := api.Language{Name: "a", Version: 1, Editors: c.rows}, c.want
		want.In = 5
		tells(t, "cells", l, want)
		goesOn(t, l, want)
		l.Editors, want.In = nil, 6
		for _, w := range c.rows {
			pieces := rowOf(len(w.Cells), func(i int) api.Piece { return api.Piece(w.Cells[i]) })
			l.Templates = append(l.Templates, api.Template{Concept: w.Concept, Pieces: pieces})
		}
		tells(t, "pieces", l, want)
		goesOn(t, l, want)
	}
}

// P4.1: what comes behind a list that is too long is not looked at; what is in another one counts for nothing.
func TestRoomOfEach(t *testing.T) {
	l := whole()
	for _, c := range limits() {
		c.full(&l, c.most)
	}
	// The concepts' own parts were filled in concepts that are others now.
	l.Concepts[0].Props = rowOf(32, func(i int) api.PropDef { return api.PropDef{Name: nth(i), Type: i%4 + 1} })
	l.Concepts[0].Kids = rowOf(32, func(i int) api.KidDef { return api.KidDef{Role: nth(i), Concept: "K", Min: i % 2, Max: i / 2 % 2} })
	l.Concepts[0].Refs = rowOf(32, func(i int) api.RefDef { return api.RefDef{Role: nth(i), Concept: "K"} })
	for i := range 256 {
		l.Editors[i].Cells = rowOf(64, func(k int) api.Cell { return api.Cell{Kind: 1} })
		l.Templates[i].Pieces = rowOf(64, func(k int) api.Piece { return api.Piece{Kind: 1} })
	}
	tells(t, "all full", l, api.Fault{})
	l.Concepts[0].Refs = append(l.Concepts[0].Refs, api.RefDef{Role: "n0"})
	tells(t, "a reference more", l, api.Fault{In: 2, Part: 97, Err: api.ErrFull})
	l.Concepts[0].Kids = append(l.Concepts[0].Kids, api.KidDef{Role: "n0"})
	tells(t, "a kid more", l, api.Fault{In: 2, Part: 65, Err: api.ErrFull})
	l.Concepts[0].Props = append(l.Concepts[0].Props, api.PropDef{Name: "n0"})
	tells(t, "a property more", l, api.Fault{In: 2, Part: 33, Err: api.ErrFull})
	l.Concepts[0].Super = "n0"
	tells(t, "its own Super", l, api.Fault{In: 2, Err: api.ErrRing})
	l.Uses = append(l.Uses, "")
	tells(t, "a use more", l, api.Fault{In: 1, At: 8, Err: api.ErrFull})
}

// wide is a side of n elements: an f of all others. It is right, if that is not too many.
func wide(n int) []api.Side {
	out := []api.Side{{Kind: 4, Name: "f", Args: rowOf(n-1, func(i int) int { return i + 1 })}}
	return append(out, rowOf(n-1, func(i int) api.Side { return api.Side{Kind: i%3 + 2, Name: "x"} })...)
}

// steep is a side of n elements, each of which, but the last, has the next one alone in its Args.
func steep(n int) []api.Side {
	out := rowOf(n, func(i int) api.Side { return api.Side{Kind: 4, Name: "f", Args: []int{i + 1}} })
	out[n-1] = api.Side{Kind: 1}
	return out
}

// P4.1: a side of 64 elements and of one more, whatever else is wrong with it.
func TestRoomOfSides(t *testing.T) {
	bad := func(l []api.Side) []api.Side {
		l[0].Name = ""
		return l
	}
	for _, c := range []struct {
		side []api.Side
		e    api.Errno
	}{
		{wide(63), api.OK}, {wide(64), api.OK}, {wide(65), api.ErrFull}, {wide(200), api.ErrFull}, {steep(64), api.OK}, {steep(65), api.ErrFull},
		{bad(wide(64)), api.ErrArg}, {bad(wide(65)), api.ErrFull}, {make([]api.Side, 64), api.ErrArg}, {make([]api.Side, 65), api.ErrFull}, {wide(65)[:64], api.ErrArg}, {wide(66)[:65], api.ErrFull},
	} {
		left, right := whole(), whole()
		left.Equations[2].Left, left.Equations[2].Right = c.side, nil
		right.Equations[2].Right = c.side
		fault := func(part int, e api.Errno) api.Fault { return api.Fault{In: 4, At: 2, Part: part, Err: e} }
		if c.e == api.OK {
			tells(t, "left, and nothing right", left, fault(2, api.ErrArg))
			tells(t, "right", right, api.Fault{})
			continue
		}
		tells(t, "left, and nothing right", left, fault(1, c.e))
		tells(t, "right", right, fault(2, c.e))
	}
}

// P4.1: texts of 4096 bytes and of one more; Text and Mark together.
func TestLongTexts(t *testing.T) {
	x := func(n int) string { return strings.Repeat("\xff", n) }
	for _, n := range []int{0, 1, 4095, 4096, 4097, 1 << 20} {
		for _, mark := range []int{0, 1, n / 2, n} {
			if mark > n {
				continue
			}
			l := whole()
			l.Rules[1].Expr = x(n)
			want := api.Fault{In: 3, At: 1, Err: api.ErrLong}
			if n <= 4096 {
				want = api.Fault{}
			}
			tells(t, "an Expr", l, want)
			l = whole()
			l.Editors[0].Cells[2] = api.Cell{Kind: 6, Text: x(n - mark), Mark: x(mark)}
			if n > 4096 {
				want = api.Fault{In: 5, At: 0, Part: 3, Err: api.ErrLong}
			}
			tells(t, "a cell", l, want)
			l = whole()
			l.Templates[1].Pieces[1] = api.Piece{Kind: 5, Text: x(n - mark), Mark: x(mark)}
			if n > 4096 {
				want = api.Fault{In: 6, At: 1, Part: 2, Err: api.ErrLong}
			}
			tells(t, "a piece", l, want)
		}
	}
	// Each by itself, not all that there is.
	l := whole()
	l.Rules[0].Expr, l.Rules[1].Expr = x(4096), x(4096)
	l.Editors[0].Cells = []api.Cell{{Kind: 1, Text: x(4096)}, {Kind: 1, Mark: x(4096)}}
	l.Templates[0].Pieces = []api.Piece{{Kind: 1, Text: x(2048), Mark: x(2048)}, {Kind: 1, Mark: x(4096)}}
	tells(t, "several texts", l, api.Fault{})
}

// P0.1: what is as great as one likes is answered all the same, and soon.
func TestGreat(t *testing.T) {
	const many = 1 << 20
	s := steep(many)
	if !lang.Tree(s) {
		t.Error("a steep tree")
	}
	s[many-1].Args = []int{many}
	if lang.Tree(s) {
		t.Error("a steep tree whose last element has one more in its Args")
	}
	if !lang.Tree(wide(many)) || lang.Tree(wide(many)[:many-1]) {
		t.Error("a wide tree")
	}
	l := whole()
	l.Concepts = rowOf(many, func(i int) api.Concept { return api.Concept{Name: nth(i % 1000)} })
	l.Rules = rowOf(many, func(i int) api.Rule { return api.Rule{} })
	if n := lang.Names(l); len(n) != 1000 || n[0] != "n0" || n[999] != "n999" {
		t.Errorf("%d names", len(n))
	}
	if !lang.Same(l, clone(l)) {
		t.Error("the same")
	}
	if f := lang.Check(l); f != (api.Fault{In: 2, At: 128, Err: api.ErrFull}) {
		t.Errorf("many concepts: %v", f)
	}
	l.Concepts = rowOf(many, func(i int) api.Concept { return api.Concept{Name: nth(i)} })
	l.Concepts[5].Props = make([]api.PropDef, many)
	if f := lang.Check(l); f != (api.Fault{In: 2, At: 5, Part: 1, Err: api.ErrArg}) {
		t.Errorf("many properties: %v", f)
	}
}
