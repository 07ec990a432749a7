package lang_test

import (
	"math"
	"slices"
	"strings"
	"testing"

	"topiary/api"
	"topiary/lang"
)

// sample is the chapter's D.
func sample() api.Language {
	return api.Language{Name: "a", Version: 1, Concepts: []api.Concept{
		{Name: "Num", Props: []api.PropDef{{Name: "v", Type: 2}}},
		{Name: "Sum", Super: "Num", Kids: []api.KidDef{{Role: "arg", Concept: "Num", Min: 1}}, Refs: []api.RefDef{{Role: "to", Concept: "Num"}}},
	}}
}

// whole is a definition without a fault, in which stands all that may stand in one.
func whole() api.Language {
	return api.Language{
		Name: "a", Version: 3, Uses: []string{"b", "A", "c"},
		Concepts: []api.Concept{
			{Name: "Sum", Super: "Num", Props: []api.PropDef{{Name: "v", Type: 1}, {Name: "w", Type: 4}}, Kids: []api.KidDef{{Role: "v", Concept: "Num", Min: 1}, {Role: "w", Concept: "Sum", Max: 1}, {Role: "x", Concept: "Far", Min: 1, Max: 1}}, Refs: []api.RefDef{{Role: "v", Concept: "Num", Need: true}, {Role: "w", Concept: "Far"}}},
			{Name: "a", Super: "Far", Abstract: true, Props: []api.PropDef{{Name: "v", Type: 2}, {Name: "w", Type: 3}}},
			{Name: "Num", Refs: []api.RefDef{{Role: "v", Concept: "Num"}}},
		},
		Rules: []api.Rule{{Concept: "Num", Name: "v", Scope: true, Expr: "self!!Num"}, {Concept: "Num", Name: "v", Expr: "true"}, {Concept: "Sum", Name: "v"}, {Concept: "Num", Name: "w", Expr: "no expression"}},
		Equations: []api.Equation{
			{Concept: "Num", Left: []api.Side{{Kind: 1}}, Right: []api.Side{{Kind: 4, Name: "int"}}},
			{Concept: "Num", Left: []api.Side{{Kind: 2, Name: "arg", Num: 7}}, Right: []api.Side{{Kind: 3, Name: "to"}}},
			{Concept: "Far", Left: []api.Side{{Kind: 5, Name: "x"}}, Right: []api.Side{{Kind: 4, Name: "f", Args: []int{1, 3, 4}}, {Kind: 4, Name: "g", Args: []int{2}}, {Kind: 2, Name: "arg"}, {Kind: 1}, {Kind: 5, Name: "x"}}},
		},
		Editors:   []api.Editor{{Concept: "Num", Cells: []api.Cell{{Kind: 1, Text: "a", Mark: "b"}, {Kind: 6}, {Kind: 2, Text: "v"}, {Kind: 5}}}, {Concept: "Far"}, {Concept: "Sum", Cells: []api.Cell{{Kind: 3}, {Kind: 4}}}},
		Templates: []api.Template{{Concept: "Sum", Pieces: []api.Piece{{Kind: 5, Text: "1"}, {Kind: 1, Text: "a", Mark: "b"}}}, {Concept: "Num", Pieces: []api.Piece{{Kind: 2}, {Kind: 3}, {Kind: 4}}}, {Concept: "Far"}},
	}
}

// tells asks that Check tells that fault of the definition, and that the slow one does.
func tells(t *testing.T, what string, l api.Language, want api.Fault) {
	t.Helper()
	if f, slow := lang.Check(l), firstFault(l); f != want || slow != want {
		t.Errorf("%s: %v, the slow one %v, not %v", what, f, slow, want)
	}
}

// P4.1: the chapter's examples.
func TestExamples(t *testing.T) {
	for _, c := range []struct {
		what  string
		spoil func(l *api.Language)
		want  api.Fault
	}{
		{"D", func(l *api.Language) {}, api.Fault{}},
		{"Version 0", func(l *api.Language) { l.Version = 0 }, api.Fault{In: 0, At: 1, Err: api.ErrArg}},
		{"Uses b, a", func(l *api.Language) { l.Uses = []string{"b", "a"} }, api.Fault{In: 1, At: 1, Err: api.ErrTwice}},
		{"a second Num", func(l *api.Language) { l.Concepts = append(l.Concepts, api.Concept{Name: "Num"}) }, api.Fault{In: 2, At: 2, Err: api.ErrTwice}},
		{"Super Sum of Sum", func(l *api.Language) { l.Concepts[1].Super = "Sum" }, api.Fault{In: 2, At: 1, Err: api.ErrRing}},
		{"Type 5", func(l *api.Language) { l.Concepts[0].Props[0].Type = 5 }, api.Fault{In: 2, At: 0, Part: 1, Err: api.ErrType}},
		{"Max 2", func(l *api.Language) { l.Concepts[1].Kids[0].Max = 2 }, api.Fault{In: 2, At: 1, Part: 1, Err: api.ErrCard}},
		{"the role 9", func(l *api.Language) { l.Concepts[1].Refs[0].Role = "9" }, api.Fault{In: 2, At: 1, Part: 2, Err: api.ErrArg}},
		{"cells of the Kinds 1, 7", func(l *api.Language) {
			l.Editors = []api.Editor{{Concept: "Num", Cells: []api.Cell{{Kind: 1}, {Kind: 7}}}}
		}, api.Fault{In: 5, At: 0, Part: 2, Err: api.ErrArg}},
	} {
		l := sample()
		c.spoil(&l)
		tells(t, c.what, l, c.want)
	}
}

// P4.1: what may be, and each thing that may not, by itself.
func TestFaults(t *testing.T) {
	tells(t, "a whole one", whole(), api.Fault{})
	tells(t, "nothing", api.Language{}, api.Fault{Err: api.ErrArg})
	tells(t, "a name and a version", api.Language{Name: "a", Version: 1}, api.Fault{})
	tells(t, "the last version", api.Language{Name: "a", Version: math.MaxInt}, api.Fault{})
	for _, c := range []struct {
		in, at, part int
		e            api.Errno
		what         string
		spoil        func(l *api.Language)
	}{
		{0, 0, 0, api.ErrArg, "its own name", func(l *api.Language) { l.Name = "?a" }},
		{0, 1, 0, api.ErrArg, "its version", func(l *api.Language) { l.Version = -1 }},
		{0, 1, 0, api.ErrArg, "the first version", func(l *api.Language) { l.Version = math.MinInt }},
		{1, 1, 0, api.ErrArg, "a use that is no name", func(l *api.Language) { l.Uses[1] = "" }},
		{1, 2, 0, api.ErrTwice, "a use twice", func(l *api.Language) { l.Uses[2] = "b" }},
		{1, 0, 0, api.ErrTwice, "itself used", func(l *api.Language) { l.Uses[0] = "a" }},
		{2, 0, 0, api.ErrArg, "a concept that is no name", func(l *api.Language) { l.Concepts[0].Name = "?Kept" }},
		{2, 2, 0, api.ErrTwice, "a concept twice", func(l *api.Language) { l.Concepts[2].Name = "Sum" }},
		{2, 2, 0, api.ErrArg, "a Super that is no name", func(l *api.Language) { l.Concepts[2].Super = " " }},
		{2, 2, 0, api.ErrRing, "its own Super", func(l *api.Language) { l.Concepts[2].Super = "Num" }},
		{2, 0, 2, api.ErrArg, "a property that is no name", func(l *api.Language) { l.Concepts[0].Props[1].Name = "w w" }},
		{2, 0, 2, api.ErrTwice, "a property twice", func(l *api.Language) { l.Concepts[0].Props[1].Name = "v" }},
		{2, 1, 1, api.ErrType, "the type 0", func(l *api.Language) { l.Concepts[1].Props[0].Type = 0 }},
		{2, 1, 2, api.ErrType, "the type -1", func(l *api.Language) { l.Concepts[1].Props[1].Type = -1 }},
		{2, 0, 3, api.ErrArg, "a kid's role that is no name", func(l *api.Language) { l.Concepts[0].Kids[0].Role = "" }},
		{2, 0, 4, api.ErrArg, "a kid's concept that is no name", func(l *api.Language) { l.Concepts[0].Kids[1].Concept = "" }},
		{2, 0, 5, api.ErrTwice, "a kid's role twice", func(l *api.Language) { l.Concepts[0].Kids[2].Role = "v" }},
		{2, 0, 3, api.ErrCard, "Min 2", func(l *api.Language) { l.Concepts[0].Kids[0].Min = 2 }},
		{2, 0, 4, api.ErrCard, "Min -1", func(l *api.Language) { l.Concepts[0].Kids[1].Min = -1 }},
		{2, 0, 5, api.ErrCard, "Max -1", func(l *api.Language) { l.Concepts[0].Kids[2].Max = -1 }},
		{2, 0, 6, api.ErrArg, "a reference's role that is no name", func(l *api.Language) { l.Concepts[0].Refs[0].Role = "?v" }},
		{2, 0, 7, api.ErrArg, "a reference's concept that is no name", func(l *api.Language) { l.Concepts[0].Refs[1].Concept = "" }},
		{2, 0, 7, api.ErrTwice, "a reference's role twice", func(l *api.Language) { l.Concepts[0].Refs[1].Role = "v" }},
		{3, 1, 0, api.ErrArg, "a rule's concept that is no name", func(l *api.Language) { l.Rules[1].Concept = "" }},
		{3, 1, 0, api.ErrArg, "a rule's name that is none", func(l *api.Language) { l.Rules[1].Name = "" }},
		{3, 1, 0, api.ErrTwice, "a scope twice", func(l *api.Language) { l.Rules[1].Scope = true }},
		{3, 3, 0, api.ErrTwice, "a rule twice", func(l *api.Language) { l.Rules[3].Name = "v" }},
		{4, 2, 0, api.ErrArg, "an equation's concept that is no name", func(l *api.Language) { l.Equations[2].Concept = "" }},
		{4, 1, 1, api.ErrArg, "nothing left", func(l *api.Language) { l.Equations[1].Left = nil }},
		{4, 1, 2, api.ErrArg, "nothing right", func(l *api.Language) { l.Equations[1].Right = []api.Side{} }},
		{5, 2, 0, api.ErrArg, "an editor's concept that is no name", func(l *api.Language) { l.Editors[2].Concept = "" }},
		{5, 2, 0, api.ErrTwice, "an editor twice", func(l *api.Language) { l.Editors[2].Concept = "Num" }},
		{5, 0, 1, api.ErrArg, "a cell of the kind 0", func(l *api.Language) { l.Editors[0].Cells[0].Kind = 0 }},
		{5, 0, 4, api.ErrArg, "a cell of the kind -1", func(l *api.Language) { l.Editors[0].Cells[3].Kind = -1 }},
		{5, 2, 2, api.ErrArg, "a cell of the kind 7", func(l *api.Language) { l.Editors[2].Cells[1].Kind = 7 }},
		{6, 2, 0, api.ErrArg, "a template's concept that is no name", func(l *api.Language) { l.Templates[2].Concept = "" }},
		{6, 1, 0, api.ErrTwice, "a template twice", func(l *api.Language) { l.Templates[1].Concept = "Sum" }},
		{6, 0, 1, api.ErrArg, "a piece of the kind 6", func(l *api.Language) { l.Templates[0].Pieces[0].Kind = 6 }},
		{6, 1, 3, api.ErrArg, "a piece of the kind 0", func(l *api.Language) { l.Templates[1].Pieces[2].Kind = 0 }},
	} {
		l := whole()
		c.spoil(&l)
		want := api.Fault{In: c.in, At: c.at, Part: c.part, Err: c.e}
		tells(t, c.what, l, want)
		goesOn(t, l, want)
	}
}

// P4.1: the elements of a side, by themselves.
func TestSides(t *testing.T) {
	leaf := api.Side{Kind: 5, Name: "x"}
	long := strings.Repeat("a", 33)
	for _, c := range []struct {
		side []api.Side
		ok   bool
	}{
		{[]api.Side{{Kind: 1}}, true}, {[]api.Side{{Kind: 1, Name: "x"}}, false}, {[]api.Side{{Kind: 1, Num: 1}}, false}, {[]api.Side{{Kind: 1, Args: []int{1}}, leaf}, false},
		{[]api.Side{{Kind: 2, Name: "x"}}, true}, {[]api.Side{{Kind: 2, Name: "x", Num: 1}}, true}, {[]api.Side{{Kind: 2, Name: "x", Num: math.MaxInt}}, true}, {[]api.Side{{Kind: 2, Name: "x", Num: -1}}, false}, {[]api.Side{{Kind: 2, Name: "x", Num: math.MinInt}}, false}, {[]api.Side{{Kind: 2}}, false}, {[]api.Side{{Kind: 2, Name: long}}, false}, {[]api.Side{{Kind: 2, Name: "x", Args: []int{1}}, leaf}, false},
		{[]api.Side{{Kind: 3, Name: "x"}}, true}, {[]api.Side{{Kind: 3, Name: "x", Num: 1}}, false}, {[]api.Side{{Kind: 3, Name: "x", Num: -1}}, false}, {[]api.Side{{Kind: 3}}, false}, {[]api.Side{{Kind: 3, Name: "x", Args: []int{1}}, leaf}, false},
		{[]api.Side{{Kind: 4, Name: "x"}}, true}, {[]api.Side{{Kind: 4, Name: "x", Args: []int{1}}, leaf}, true}, {[]api.Side{{Kind: 4, Name: "x", Num: 1}}, false}, {[]api.Side{{Kind: 4, Name: "x", Num: -1}}, false}, {[]api.Side{{Kind: 4}}, false}, {[]api.Side{{Kind: 4, Name: "?x"}}, false},
		{[]api.Side{{Kind: 5, Name: "x"}}, true}, {[]api.Side{{Kind: 5, Name: "x", Num: 1}}, false}, {[]api.Side{{Kind: 5}}, false}, {[]api.Side{{Kind: 5, Name: "x", Args: []int{1}}, leaf}, false},
		{[]api.Side{{Kind: 0, Name: "x"}}, false}, {[]api.Side{{Kind: 0}}, false}, {[]api.Side{{Kind: 6, Name: "x"}}, false}, {[]api.Side{{Kind: 6}}, false}, {[]api.Side{{Kind: -1, Name: "x"}}, false}, {[]api.Side{{Kind: math.MinInt, Name: "x"}}, false},
		{[]api.Side{{Kind: 4, Name: "f", Args: []int{1, 2}}, leaf, {Kind: 1}}, true}, {[]api.Side{{Kind: 4, Name: "f", Args: []int{2, 1}}, leaf, leaf}, false}, {[]api.Side{{Kind: 4, Name: "f", Args: []int{1}}, leaf, leaf}, false}, {[]api.Side{{Kind: 4, Name: "f", Args: []int{1, 2}}, leaf, {Kind: 1, Name: "x"}}, false},
	} {
		left, right := whole(), whole()
		left.Equations[1].Left = c.side
		right.Equations[1].Right = c.side
		of := func(part int) api.Fault {
			if c.ok {
				return api.Fault{}
			}
			return api.Fault{In: 4, At: 1, Part: part, Err: api.ErrArg}
		}
		tells(t, "left", left, of(1))
		tells(t, "right", right, of(2))
	}
}

// P4.1: of several things that are wrong the first one; each step mends what it asks for, and all behind it is wrong still.
func TestFirstFault(t *testing.T) {
	long := strings.Repeat("x", 4097)
	l := api.Language{
		Uses:      []string{"9", "a", "b", "b"},
		Concepts:  []api.Concept{{Super: "9", Props: []api.PropDef{{Type: 9}, {Type: 9}}, Kids: []api.KidDef{{Min: 9}, {Max: 9}}, Refs: []api.RefDef{{}, {}}}, {Super: "C"}},
		Rules:     []api.Rule{{Concept: "C", Name: "r", Expr: "x"}, {Expr: long}},
		Equations: []api.Equation{{Left: make([]api.Side, 65), Right: []api.Side{{Kind: 5, Name: "x"}, {Kind: 5, Name: "x"}}}},
		Editors:   []api.Editor{{Concept: "C"}, {Cells: []api.Cell{{Text: long}, {Text: long}}}},
		Templates: []api.Template{{Concept: "C"}, {Pieces: []api.Piece{{Text: long}, {Text: long}}}},
	}
	for _, c := range []struct {
		in, at, part int
		e            api.Errno
		mend         func()
	}{
		{0, 0, 0, api.ErrArg, func() { l.Name = "a" }},
		{0, 1, 0, api.ErrArg, func() { l.Version = 1 }},
		{1, 0, 0, api.ErrArg, func() { l.Uses[0] = "c" }},
		{1, 1, 0, api.ErrTwice, func() { l.Uses[1] = "d" }},
		{1, 3, 0, api.ErrTwice, func() { l.Uses[3] = "e" }},
		{2, 0, 0, api.ErrArg, func() { l.Concepts[0].Name = "C" }},
		{2, 0, 0, api.ErrArg, func() { l.Concepts[0].Super = "C" }},
		{2, 0, 0, api.ErrRing, func() { l.Concepts[0].Super = "" }},
		{2, 0, 1, api.ErrArg, func() { l.Concepts[0].Props[0].Name = "p" }},
		{2, 0, 1, api.ErrType, func() { l.Concepts[0].Props[0].Type = 1 }},
		{2, 0, 2, api.ErrArg, func() { l.Concepts[0].Props[1].Name = "p" }},
		{2, 0, 2, api.ErrTwice, func() { l.Concepts[0].Props[1].Name = "q" }},
		{2, 0, 2, api.ErrType, func() { l.Concepts[0].Props[1].Type = 4 }},
		{2, 0, 3, api.ErrArg, func() { l.Concepts[0].Kids[0].Role = "p" }},
		{2, 0, 3, api.ErrArg, func() { l.Concepts[0].Kids[0].Concept = "C" }},
		{2, 0, 3, api.ErrCard, func() { l.Concepts[0].Kids[0].Min = 0 }},
		{2, 0, 4, api.ErrArg, func() { l.Concepts[0].Kids[1].Role = "p" }},
		{2, 0, 4, api.ErrArg, func() { l.Concepts[0].Kids[1].Concept = "C" }},
		{2, 0, 4, api.ErrTwice, func() { l.Concepts[0].Kids[1].Role = "q" }},
		{2, 0, 4, api.ErrCard, func() { l.Concepts[0].Kids[1].Max = 1 }},
		{2, 0, 5, api.ErrArg, func() { l.Concepts[0].Refs[0].Role = "p" }},
		{2, 0, 5, api.ErrArg, func() { l.Concepts[0].Refs[0].Concept = "C" }},
		{2, 0, 6, api.ErrArg, func() { l.Concepts[0].Refs[1].Role = "p" }},
		{2, 0, 6, api.ErrArg, func() { l.Concepts[0].Refs[1].Concept = "C" }},
		{2, 0, 6, api.ErrTwice, func() { l.Concepts[0].Refs[1].Role = "q" }},
		{2, 1, 0, api.ErrArg, func() { l.Concepts[1].Name = "C" }},
		{2, 1, 0, api.ErrTwice, func() { l.Concepts[1].Name = "D" }},
		{3, 1, 0, api.ErrArg, func() { l.Rules[1].Name = "r" }},
		{3, 1, 0, api.ErrArg, func() { l.Rules[1].Concept = "C" }},
		{3, 1, 0, api.ErrTwice, func() { l.Rules[1].Scope = true }},
		{3, 1, 0, api.ErrLong, func() { l.Rules[1].Expr = "" }},
		{4, 0, 0, api.ErrArg, func() { l.Equations[0].Concept = "C" }},
		{4, 0, 1, api.ErrFull, func() { l.Equations[0].Left = nil }},
		{4, 0, 1, api.ErrArg, func() { l.Equations[0].Left = []api.Side{{}} }},
		{4, 0, 1, api.ErrArg, func() { l.Equations[0].Left[0].Kind = 1 }},
		{4, 0, 2, api.ErrArg, func() { l.Equations[0].Right[0] = api.Side{Kind: 4, Name: "f", Args: []int{1}} }},
		{5, 1, 0, api.ErrArg, func() { l.Editors[1].Concept = "C" }},
		{5, 1, 0, api.ErrTwice, func() { l.Editors[1].Concept = "D" }},
		{5, 1, 1, api.ErrArg, func() { l.Editors[1].Cells[0].Kind = 1 }},
		{5, 1, 1, api.ErrLong, func() { l.Editors[1].Cells[0].Text = "x" }},
		{5, 1, 2, api.ErrArg, func() { l.Editors[1].Cells[1].Kind = 6 }},
		{5, 1, 2, api.ErrLong, func() { l.Editors[1].Cells[1].Text = "" }},
		{6, 1, 0, api.ErrArg, func() { l.Templates[1].Concept = "C" }},
		{6, 1, 0, api.ErrTwice, func() { l.Templates[1].Concept = "D" }},
		{6, 1, 1, api.ErrArg, func() { l.Templates[1].Pieces[0].Kind = 1 }},
		{6, 1, 1, api.ErrLong, func() { l.Templates[1].Pieces[0].Text = "x" }},
		{6, 1, 2, api.ErrArg, func() { l.Templates[1].Pieces[1].Kind = 5 }},
		{6, 1, 2, api.ErrLong, func() { l.Templates[1].Pieces[1].Text = "" }},
	} {
		want := api.Fault{In: c.in, At: c.at, Part: c.part, Err: c.e}
		tells(t, "all that is wrong", l, want)
		goesOn(t, l, want)
		c.mend()
	}
	tells(t, "all mended", l, api.Fault{})
}

// P4.1: the names that are none, wherever a name is asked for, and those that are.
func TestNamesAskedFor(t *testing.T) {
	fill := func(s string) []func(l *api.Language) {
		return []func(l *api.Language){
			func(l *api.Language) { l.Name = s }, func(l *api.Language) { l.Uses[2] = s },
			func(l *api.Language) { l.Concepts[2].Name = s }, func(l *api.Language) { l.Concepts[2].Super = s },
			func(l *api.Language) { l.Concepts[1].Props[1].Name = s },
			func(l *api.Language) { l.Concepts[0].Kids[2].Role = s }, func(l *api.Language) { l.Concepts[0].Kids[2].Concept = s },
			func(l *api.Language) { l.Concepts[0].Refs[1].Role = s }, func(l *api.Language) { l.Concepts[0].Refs[1].Concept = s },
			func(l *api.Language) { l.Rules[3].Concept = s }, func(l *api.Language) { l.Rules[3].Name = s },
			func(l *api.Language) { l.Equations[2].Concept = s }, func(l *api.Language) { l.Equations[2].Left[0].Name = s }, func(l *api.Language) { l.Equations[2].Right[1].Name = s },
			func(l *api.Language) { l.Editors[2].Concept = s }, func(l *api.Language) { l.Templates[2].Concept = s },
		}
	}
	places := []api.Fault{{}, {In: 1, At: 2}, {In: 2, At: 2}, {In: 2, At: 2}, {In: 2, At: 1, Part: 2}, {In: 2, Part: 5}, {In: 2, Part: 5}, {In: 2, Part: 7}, {In: 2, Part: 7}, {In: 3, At: 3}, {In: 3, At: 3}, {In: 4, At: 2}, {In: 4, At: 2, Part: 1}, {In: 4, At: 2, Part: 2}, {In: 5, At: 2}, {In: 6, At: 2}}
	for _, s := range []string{"z", "Z", "z9_", strings.Repeat("z", 32)} {
		for _, spoil := range fill(s) {
			l := whole()
			spoil(&l)
			tells(t, s+" at a place", l, api.Fault{})
		}
	}
	for _, s := range []string{"", "?", "?z", "_z", "9", "z z", "z\n", "z.", "\u00e9", "\x00", strings.Repeat("z", 33)} {
		for i, spoil := range fill(s) {
			l, want := whole(), places[i]
			spoil(&l)
			want.Err = api.ErrArg
			if s == "" && i == 3 {
				want = api.Fault{} // a concept need have no Super
			}
			tells(t, s+" at a place", l, want)
		}
	}
}

// P4.1: names that are told twice in lists that have nothing to do with each other.
func TestNotTwice(t *testing.T) {
	l := api.Language{Name: "x", Version: 1, Uses: []string{"X", "y"},
		Concepts: []api.Concept{
			{Name: "x", Super: "y", Props: []api.PropDef{{Name: "x", Type: 1}}, Kids: []api.KidDef{{Role: "x", Concept: "x"}, {Role: "y", Concept: "x"}}, Refs: []api.RefDef{{Role: "x", Concept: "x"}, {Role: "y", Concept: "x"}}},
			{Name: "y", Super: "x", Props: []api.PropDef{{Name: "x", Type: 1}}, Kids: []api.KidDef{{Role: "x", Concept: "x"}}, Refs: []api.RefDef{{Role: "x", Concept: "x"}}},
		},
		Rules:     []api.Rule{{Concept: "x", Name: "x"}, {Concept: "x", Name: "x", Scope: true}, {Concept: "x", Name: "y"}, {Concept: "y", Name: "x"}},
		Equations: []api.Equation{{Concept: "x", Left: []api.Side{{Kind: 1}}, Right: []api.Side{{Kind: 1}}}, {Concept: "x", Left: []api.Side{{Kind: 1}}, Right: []api.Side{{Kind: 1}}}},
		Editors:   []api.Editor{{Concept: "x", Cells: []api.Cell{{Kind: 1}, {Kind: 1}}}, {Concept: "y", Cells: []api.Cell{{Kind: 1}}}},
		Templates: []api.Template{{Concept: "x", Pieces: []api.Piece{{Kind: 1}, {Kind: 1}}}, {Concept: "y", Pieces: []api.Piece{{Kind: 1}}}},
	}
	tells(t, "x everywhere", l, api.Fault{})
	goesOn(t, l, api.Fault{})
}

// P4.3: which concept it is, and what is none.
func TestConcept(t *testing.T) {
	l := whole()
	l.Concepts = append(l.Concepts, api.Concept{Name: "Num", Super: "second"}, api.Concept{Name: "", Super: "nameless"}, api.Concept{Name: "n n", Kids: []api.KidDef{{Role: "k"}}})
	for _, want := range []api.Concept{l.Concepts[0], l.Concepts[1], l.Concepts[2], l.Concepts[4], l.Concepts[5]} {
		c, ok := lang.Concept(l, want.Name)
		if !ok || !isSame(api.Language{Concepts: []api.Concept{c}}, api.Language{Concepts: []api.Concept{want}}) {
			t.Errorf("Concept(%q): %v, %v", want.Name, c, ok)
		}
	}
	none := api.Language{Concepts: []api.Concept{{}}}
	for _, name := range []string{"num", "Nu", "Num ", "Far", "v", "?Num", "NumNum"} {
		if c, ok := lang.Concept(l, name); ok || !isSame(api.Language{Concepts: []api.Concept{c}}, none) {
			t.Errorf("Concept(%q): %v, %v", name, c, ok)
		}
	}
	if _, ok := lang.Concept(whole(), ""); ok {
		t.Error("a concept without a name, where all have one")
	}
	if _, ok := lang.Concept(api.Language{}, ""); ok {
		t.Error("a concept of no language")
	}
}

// P4.3: sorted, each once, of any definition.
func TestNames(t *testing.T) {
	for _, c := range []struct{ names, want []string }{
		{nil, nil}, {[]string{""}, []string{""}}, {[]string{"b", "a"}, []string{"a", "b"}}, {[]string{"a", "b", "a", "a", "b"}, []string{"a", "b"}},
		{[]string{"a_", "aa", "a", "a0", "A", "B", "\xff", "\u00e9", "", "?a", "a b", ""}, []string{"", "?a", "A", "B", "a", "a b", "a0", "a_", "aa", "\u00e9", "\xff"}},
	} {
		var l api.Language
		for _, n := range c.names {
			l.Concepts = append(l.Concepts, api.Concept{Name: n, Super: "z"})
		}
		if got := lang.Names(l); !slices.Equal(got, c.want) {
			t.Errorf("Names of %q: %q", c.names, got)
		}
	}
	if got := lang.Names(sample()); !slices.Equal(got, []string{"Num", "Sum"}) {
		t.Errorf("Names(D): %q", got)
	}
}
