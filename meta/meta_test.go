package meta_test

import (
	"slices"
	"strings"
	"testing"

	"topiary/api"
	"topiary/meta"
)

// first and second are the chapter's a and b.
func first() api.Language {
	return api.Language{
		Name: "a", Version: 1,
		Concepts: []api.Concept{
			{Name: "Num", Props: []api.PropDef{{Name: "v", Type: 2}}},
			{Name: "Sum", Super: "Num", Kids: []api.KidDef{{Role: "arg", Concept: "Num"}}, Refs: []api.RefDef{{Role: "to", Concept: "Num"}}},
		},
		Rules:   []api.Rule{{Concept: "Sum", Name: "to", Scope: true, Expr: "self!!Num"}, {Concept: "Num", Name: "ok", Expr: "true"}},
		Editors: []api.Editor{{Concept: "Num", Cells: []api.Cell{{Kind: 2, Text: "v"}, {Kind: 5}}}},
	}
}

func second() api.Language {
	return api.Language{
		Name: "b", Version: 1,
		Concepts: []api.Concept{{Name: "Neg", Super: "Sum", Props: []api.PropDef{{Name: "w", Type: 1}}}},
		Rules:    []api.Rule{{Concept: "Neg", Name: "no", Expr: "false"}},
	}
}

func both() []api.Language { return []api.Language{first(), second()} }

// equation is one by which one may tell it from others.
func equation(concept, name string) api.Equation {
	return api.Equation{Concept: concept, Left: []api.Side{{Kind: 1}}, Right: []api.Side{{Kind: 4, Name: name, Args: []int{1, 2}}, {Kind: 5, Name: "x"}, {Kind: 4, Name: name, Args: []int{3}}, {Kind: 2, Name: "arg", Num: 3}}}
}

// whole are languages without a fault, in which stands all that may stand in some that are used together: Supers, and concepts of kids and references, that come later and from elsewhere; rules of other languages' concepts; scopes, editors and templates that hide those above.
func whole() []api.Language {
	return []api.Language{
		{
			Name: "c", Version: 7, Uses: []string{"nobody"},
			Concepts: []api.Concept{
				{Name: "Low", Super: "Mid", Props: []api.PropDef{{Name: "p3", Type: 1}}, Kids: []api.KidDef{{Role: "k3", Concept: "Low", Max: 1}}, Refs: []api.RefDef{{Role: "r3", Concept: "Side", Need: true}}},
				{Name: "Side", Super: "Top", Abstract: true, Props: []api.PropDef{{Name: "p3", Type: 3}}, Refs: []api.RefDef{{Role: "r1", Concept: "Top"}}},
			},
			Rules:     []api.Rule{{Concept: "Top", Name: "ok", Expr: "c of Top"}, {Concept: "Low", Name: "ok", Expr: "c of Low"}, {Concept: "Mid", Name: "r0", Scope: true, Expr: "r0 of Mid"}, {Concept: "Top", Name: "r0", Expr: "no scope"}},
			Equations: []api.Equation{equation("Mid", "c1"), equation("Top", "c2"), equation("Mid", "c3")},
			Editors:   []api.Editor{{Concept: "Low", Cells: nil}, {Concept: "Top", Cells: []api.Cell{{Kind: 1, Text: "top"}, {Kind: 2, Mark: "m"}}}},
			Templates: []api.Template{{Concept: "Side", Pieces: []api.Piece{{Kind: 5, Text: "side"}}}},
		},
		{Name: "d", Version: 1},
		{
			Name: "a", Version: 2, Uses: []string{"c"},
			Concepts: []api.Concept{
				{Name: "Mid", Super: "Top", Abstract: true, Props: []api.PropDef{{Name: "p2", Type: 4}, {Name: "p1", Type: 2}}, Kids: []api.KidDef{{Role: "k1", Concept: "Side", Min: 1}, {Role: "k2", Concept: "Lone"}}, Refs: []api.RefDef{{Role: "r1", Concept: "Low"}}},
				{Name: "Lone"},
			},
			Rules:     []api.Rule{{Concept: "Low", Name: "r0", Scope: true, Expr: "r0 of Low"}, {Concept: "Top", Name: "no", Expr: "a of Top"}, {Concept: "Low", Name: "no", Expr: "a of Low"}, {Concept: "Side", Name: "r1", Scope: true, Expr: ""}},
			Equations: []api.Equation{equation("Low", "a1"), equation("Top", "a2")},
			Editors:   []api.Editor{{Concept: "Lone", Cells: []api.Cell{{Kind: 6}}}},
			Templates: []api.Template{{Concept: "Top", Pieces: []api.Piece{{Kind: 1, Text: "t"}, {Kind: 2, Text: "u"}}}, {Concept: "Mid"}},
		},
		{
			Name: "b", Version: 1,
			Concepts:  []api.Concept{{Name: "Top", Props: []api.PropDef{{Name: "p0", Type: 1}}, Kids: []api.KidDef{{Role: "k0", Concept: "Lone"}}, Refs: []api.RefDef{{Role: "r0", Concept: "Top"}, {Role: "r2", Concept: "Lone"}}}},
			Rules:     []api.Rule{{Concept: "Top", Name: "ok2", Expr: "b of Top"}, {Concept: "Top", Name: "r2", Scope: true, Expr: "r2 of Top"}, {Concept: "Top", Name: "r0", Scope: true, Expr: "r0 of Top"}},
			Equations: []api.Equation{equation("Top", "b1")},
		},
	}
}

// P5.1 to P5.6: the chapter's examples.
func TestExamples(t *testing.T) {
	m := tells(t, "a b", both(), api.Fault{})
	if got := m.Concepts(); !slices.Equal(got, []string{"Neg", "Num", "Sum"}) {
		t.Errorf("Concepts: %q", got)
	}
	want := api.Concept{Name: "Neg", Super: "Sum", Props: []api.PropDef{{Name: "v", Type: 2}, {Name: "w", Type: 1}}, Kids: []api.KidDef{{Role: "arg", Concept: "Num"}}, Refs: []api.RefDef{{Role: "to", Concept: "Num"}}}
	if got, ok := m.Concept("Neg"); !ok || !isSame(got, want) || m.Lang("Neg") != "b" {
		t.Errorf("Neg: %+v, %v, of %q", got, ok, m.Lang("Neg"))
	}
	if s, ok := m.Scope("Neg", "to"); s != "self!!Num" || !ok {
		t.Errorf("the scope of Neg and to: %q, %v", s, ok)
	}
	if s, ok := m.Scope("Num", "to"); s != "" || ok {
		t.Errorf("the scope of Num and to: %q, %v", s, ok)
	}
	if got := m.Rules("Neg"); !slices.Equal(got, []api.Rule{{Concept: "Num", Name: "ok", Expr: "true"}, {Concept: "Neg", Name: "no", Expr: "false"}}) {
		t.Errorf("the rules of Neg: %v", got)
	}
	if got, ok := m.Editor("Neg"); !ok || !slices.Equal(got, []api.Cell{{Kind: 2, Text: "v"}, {Kind: 5}}) {
		t.Errorf("the editor of Neg: %v, %v", got, ok)
	}
	m, _ = meta.New(both())
	if !m.Below("Neg", "Num") || m.Below("Num", "Neg") || !m.Below("Neg", "Neg") || !m.Below("x", "x") || m.Below("x", "y") || m.Uses() != 5 {
		t.Errorf("Below, and Uses %d", m.Uses())
	}
}

// P5.1: the chapter's examples of faults.
func TestExampleFaults(t *testing.T) {
	for _, c := range []struct {
		what  string
		spoil func(ls []api.Language) []api.Language
		want  api.Fault
	}{
		{"b", func(ls []api.Language) []api.Language { return ls[1:] }, api.Fault{In: 2, Err: api.ErrUnknown}},
		{"b a", func(ls []api.Language) []api.Language { return []api.Language{ls[1], ls[0]} }, api.Fault{}},
		{"b's w called v", func(ls []api.Language) []api.Language { ls[1].Concepts[0].Props[0].Name = "v"; return ls }, api.Fault{In: 12, Part: 1, Err: api.ErrTwice}},
		{"Num's Super Neg", func(ls []api.Language) []api.Language { ls[0].Concepts[0].Super = "Neg"; return ls }, api.Fault{In: 2, Err: api.ErrRing}},
		{"a a", func(ls []api.Language) []api.Language { return []api.Language{ls[0], ls[0]} }, api.Fault{In: 10, Err: api.ErrTwice}},
		{"an editor of Num in b", func(ls []api.Language) []api.Language { ls[1].Editors = ls[0].Editors; return ls }, api.Fault{In: 15, Err: api.ErrTwice}},
		{"a scope of Num and to in b", func(ls []api.Language) []api.Language {
			ls[1].Rules = append(ls[1].Rules, api.Rule{Concept: "Num", Name: "to", Scope: true})
			return ls
		}, api.Fault{In: 13, At: 1, Err: api.ErrUnknown}},
		{"an equation of x in a", func(ls []api.Language) []api.Language {
			ls[0].Equations = []api.Equation{equation("x", "y")}
			return ls
		}, api.Fault{In: 4, Err: api.ErrUnknown}},
	} {
		tells(t, c.what, c.spoil(both()), c.want)
	}
}

// P5.1 to P5.5: all that may stand in languages that are used together, answer by answer.
func TestWhole(t *testing.T) {
	m := tells(t, "whole", whole(), api.Fault{})
	if got := m.Concepts(); !slices.Equal(got, []string{"Lone", "Low", "Mid", "Side", "Top"}) {
		t.Errorf("Concepts: %q", got)
	}
	want := api.Concept{
		Name: "Low", Super: "Mid",
		Props: []api.PropDef{{Name: "p0", Type: 1}, {Name: "p2", Type: 4}, {Name: "p1", Type: 2}, {Name: "p3", Type: 1}},
		Kids:  []api.KidDef{{Role: "k0", Concept: "Lone"}, {Role: "k1", Concept: "Side", Min: 1}, {Role: "k2", Concept: "Lone"}, {Role: "k3", Concept: "Low", Max: 1}},
		Refs:  []api.RefDef{{Role: "r0", Concept: "Top"}, {Role: "r2", Concept: "Lone"}, {Role: "r1", Concept: "Low"}, {Role: "r3", Concept: "Side", Need: true}},
	}
	if got, ok := m.Concept("Low"); !ok || !isSame(got, want) {
		t.Errorf("Low: %+v, %v", got, ok)
	}
	if got, ok := m.Concept("Mid"); !ok || !got.Abstract || got.Super != "Top" || len(got.Props) != 3 {
		t.Errorf("Mid: %+v, %v", got, ok)
	}
	exprs := func(c string) string {
		var out []string
		for _, r := range m.Rules(c) {
			out = append(out, r.Expr)
		}
		return strings.Join(out, ", ")
	}
	for c, want := range map[string]string{"Low": "c of Top, no scope, a of Top, b of Top, c of Low, a of Low", "Mid": "c of Top, no scope, a of Top, b of Top", "Lone": "", "none": ""} {
		if got := exprs(c); got != want {
			t.Errorf("the rules of %s: %s, not %s", c, got, want)
		}
	}
	equations := func(c string) string {
		var out []string
		for _, q := range m.Equations(c) {
			out = append(out, q.Concept+" "+q.Right[0].Name)
		}
		return strings.Join(out, ", ")
	}
	for c, want := range map[string]string{"Low": "Top c2, Top a2, Top b1, Mid c1, Mid c3, Low a1", "Side": "Top c2, Top a2, Top b1", "Lone": "", "none": ""} {
		if got := equations(c); got != want {
			t.Errorf("the equations of %s: %s, not %s", c, got, want)
		}
	}
	for _, c := range []struct {
		concept, role, want string
		ok                  bool
	}{
		{"Low", "r0", "r0 of Low", true}, {"Mid", "r0", "r0 of Mid", true}, {"Side", "r0", "r0 of Top", true}, {"Top", "r0", "r0 of Top", true}, {"Low", "r2", "r2 of Top", true}, {"Side", "r1", "", true}, {"Low", "r1", "", false}, {"Low", "ok", "", false}, {"Lone", "r0", "", false}, {"none", "r0", "", false}, {"", "", "", false},
	} {
		if got, ok := m.Scope(c.concept, c.role); got != c.want || ok != c.ok {
			t.Errorf("the scope of %s and %s: %q, %v", c.concept, c.role, got, ok)
		}
	}
	// An editor without a cell, and a template without a piece, are ones all the same.
	for c, want := range map[string]int{"Low": 0, "Mid": 2, "Side": 2, "Top": 2, "Lone": 1} {
		if got, ok := m.Editor(c); !ok || len(got) != want {
			t.Errorf("the editor of %s: %v, %v", c, got, ok)
		}
	}
	for c, want := range map[string]int{"Low": 0, "Mid": 0, "Side": 1, "Top": 2} {
		if got, ok := m.Template(c); !ok || len(got) != want {
			t.Errorf("the template of %s: %v, %v", c, got, ok)
		}
	}
	if got, ok := m.Template("Lone"); ok || len(got) > 0 {
		t.Errorf("the template of Lone: %v, %v", got, ok)
	}
	for c, want := range map[string]string{"Low": "c", "Side": "c", "Mid": "a", "Lone": "a", "Top": "b", "none": "", "": ""} {
		if got := m.Lang(c); got != want {
			t.Errorf("the language of %s: %q", c, got)
		}
	}
}

// P5.1: each thing that may not be, by itself, at its place.
func TestFaults(t *testing.T) {
	for _, c := range []struct {
		in, at, part int
		e            api.Errno
		what         string
		spoil        func(ls []api.Language)
	}{
		{0, 0, 0, api.ErrArg, "the first language's name", func(ls []api.Language) { ls[0].Name = "9" }},
		{31, 0, 0, api.ErrTwice, "a language that uses itself", func(ls []api.Language) { ls[3].Uses = []string{"b"} }},
		{22, 0, 3, api.ErrArg, "a kid's role that is no name", func(ls []api.Language) { ls[2].Concepts[0].Kids[0].Role = "" }},
		{26, 1, 65, api.ErrFull, "a template that is too long", func(ls []api.Language) { ls[2].Templates[1].Pieces = make([]api.Piece, 65) }},
		{30, 0, 0, api.ErrTwice, "a language's name twice", func(ls []api.Language) { ls[3].Name = "c" }},
		{22, 1, 0, api.ErrTwice, "a concept's name twice", func(ls []api.Language) { ls[2].Concepts[1].Name = "Side" }},
		{2, 0, 0, api.ErrUnknown, "a Super that isn't there", func(ls []api.Language) { ls[0].Concepts[0].Super = "none" }},
		{22, 0, 0, api.ErrRing, "a ring of two", func(ls []api.Language) { ls[3].Concepts[0].Super = "Mid" }},
		{2, 0, 0, api.ErrRing, "a ring of three", func(ls []api.Language) { ls[3].Concepts[0].Super = "Low" }},
		{2, 0, 1, api.ErrTwice, "a property of the concept above", func(ls []api.Language) { ls[0].Concepts[0].Props[0].Name = "p1" }},
		{22, 0, 2, api.ErrTwice, "a property of the concept above that comes later", func(ls []api.Language) { ls[2].Concepts[0].Props[1].Name = "p0" }},
		{2, 0, 2, api.ErrTwice, "a kid's role of what is far above", func(ls []api.Language) { ls[0].Concepts[0].Kids[0].Role = "k0" }},
		{2, 1, 2, api.ErrTwice, "a reference's role of the concept above", func(ls []api.Language) { ls[0].Concepts[1].Refs[0].Role = "r2" }},
		{32, 0, 2, api.ErrUnknown, "a kid's concept that isn't there", func(ls []api.Language) { ls[3].Concepts[0].Kids[0].Concept = "none" }},
		{2, 0, 3, api.ErrUnknown, "a reference's concept that isn't there", func(ls []api.Language) { ls[0].Concepts[0].Refs[0].Concept = "p0" }},
		{3, 1, 0, api.ErrUnknown, "a rule's concept that isn't there", func(ls []api.Language) { ls[0].Rules[1].Concept = "none" }},
		{23, 0, 0, api.ErrUnknown, "a scope's concept that isn't there", func(ls []api.Language) { ls[2].Rules[0].Concept = "none" }},
		{23, 0, 0, api.ErrUnknown, "a scope's role that is a kid's", func(ls []api.Language) { ls[2].Rules[0].Name = "k0" }},
		{33, 1, 0, api.ErrUnknown, "a scope's role that only one below has", func(ls []api.Language) { ls[3].Rules[1].Name = "r1" }},
		{33, 0, 0, api.ErrTwice, "a rule of another language", func(ls []api.Language) { ls[3].Rules[0].Name = "ok" }},
		{33, 2, 0, api.ErrTwice, "a scope of another language", func(ls []api.Language) { ls[3].Rules[2].Concept = "Mid" }},
		{34, 0, 0, api.ErrUnknown, "an equation's concept that isn't there", func(ls []api.Language) { ls[3].Equations[0].Concept = "none" }},
		{5, 0, 0, api.ErrUnknown, "an editor's concept that isn't there", func(ls []api.Language) { ls[0].Editors[0].Concept = "none" }},
		{25, 0, 0, api.ErrTwice, "an editor of another language", func(ls []api.Language) { ls[2].Editors[0].Concept = "Top" }},
		{26, 1, 0, api.ErrUnknown, "a template's concept that isn't there", func(ls []api.Language) { ls[2].Templates[1].Concept = "none" }},
		{26, 0, 0, api.ErrTwice, "a template of another language", func(ls []api.Language) { ls[2].Templates[0].Concept = "Side" }},
	} {
		ls := whole()
		c.spoil(ls)
		tells(t, c.what, ls, api.Fault{In: c.in, At: c.at, Part: c.part, Err: c.e})
	}
}

// P5.1: of several things that are wrong the first one; each step mends what it asks for, and all behind it is wrong still.
func TestFirstFault(t *testing.T) {
	ls := []api.Language{
		{
			Name: "a", Version: 1,
			Concepts:  []api.Concept{{Name: "A", Super: "none", Kids: []api.KidDef{{Role: "k", Concept: "none"}}}, {Name: "B", Super: "C", Props: []api.PropDef{{Name: "p", Type: 1}}, Refs: []api.RefDef{{Role: "r", Concept: "none"}}}},
			Rules:     []api.Rule{{Concept: "none", Name: "x", Scope: true}},
			Equations: []api.Equation{equation("none", "x")},
			Editors:   []api.Editor{{Concept: "none"}},
			Templates: []api.Template{{Concept: "none"}},
		},
		{
			Name:      "a",
			Concepts:  []api.Concept{{Name: "A", Super: "none"}, {Name: "B", Super: "none"}, {Name: "C", Super: "B", Props: []api.PropDef{{Name: "p", Type: 1}}, Refs: []api.RefDef{{Role: "r", Concept: "none"}}}},
			Rules:     []api.Rule{{Concept: "D", Name: "x"}, {Concept: "none", Name: "x"}},
			Equations: []api.Equation{equation("none", "x")},
			Editors:   []api.Editor{{Concept: "A"}, {Concept: "none"}},
			Templates: []api.Template{{Concept: "A"}, {Concept: "none"}},
		},
	}
	one, two := &ls[0], &ls[1]
	for _, c := range []struct {
		in, at, part int
		e            api.Errno
		mend         func()
	}{
		{10, 1, 0, api.ErrArg, func() { two.Version = 1 }},
		{10, 0, 0, api.ErrTwice, func() { two.Name = "b" }},
		{12, 0, 0, api.ErrTwice, func() { two.Concepts[0].Name = "D" }},
		{12, 1, 0, api.ErrTwice, func() { two.Concepts[1].Name = "E" }},
		{2, 0, 0, api.ErrUnknown, func() { one.Concepts[0].Super = "B" }},
		{2, 1, 0, api.ErrRing, func() { one.Concepts[1].Super = "" }},
		{12, 0, 0, api.ErrUnknown, func() { two.Concepts[0].Super = "E" }},
		{12, 1, 0, api.ErrUnknown, func() { two.Concepts[1].Super = "D" }},
		{12, 0, 0, api.ErrRing, func() { two.Concepts[1].Super = "C" }},
		{2, 0, 1, api.ErrUnknown, func() { one.Concepts[0].Kids[0].Concept = "A" }},
		{2, 1, 2, api.ErrUnknown, func() { one.Concepts[1].Refs[0].Concept = "A" }},
		{12, 2, 1, api.ErrTwice, func() { two.Concepts[2].Props[0].Name = "q" }},
		{12, 2, 2, api.ErrTwice, func() { two.Concepts[2].Refs[0].Role = "s" }},
		{12, 2, 2, api.ErrUnknown, func() { two.Concepts[2].Refs[0].Concept = "C" }},
		{3, 0, 0, api.ErrUnknown, func() { one.Rules[0].Concept = "D" }},
		{3, 0, 0, api.ErrUnknown, func() { one.Rules[0].Scope = false }},
		{4, 0, 0, api.ErrUnknown, func() { one.Equations[0].Concept = "C" }},
		{5, 0, 0, api.ErrUnknown, func() { one.Editors[0].Concept = "A" }},
		{6, 0, 0, api.ErrUnknown, func() { one.Templates[0].Concept = "A" }},
		{13, 0, 0, api.ErrTwice, func() { two.Rules[0].Name = "y" }},
		{13, 1, 0, api.ErrUnknown, func() { two.Rules[1].Concept = "A" }},
		{14, 0, 0, api.ErrUnknown, func() { two.Equations[0].Concept = "C" }},
		{15, 0, 0, api.ErrTwice, func() { two.Editors[0].Concept = "B" }},
		{15, 1, 0, api.ErrUnknown, func() { two.Editors[1].Concept = "E" }},
		{16, 0, 0, api.ErrTwice, func() { two.Templates[0].Concept = "B" }},
		{16, 1, 0, api.ErrUnknown, func() { two.Templates[1].Concept = "E" }},
	} {
		tells(t, "all that is wrong", ls, api.Fault{In: c.in, At: c.at, Part: c.part, Err: c.e})
		c.mend()
	}
	tells(t, "all mended", ls, api.Fault{})
}

// P5.1: which concept a ring is told at, those that only hang below one, and Supers that aren't there.
func TestRings(t *testing.T) {
	// Each text is a language, its words concepts, each with its Super.
	for _, c := range []struct {
		ls   []string
		want api.Fault
	}{
		{[]string{"A:B", "B:C", "C:"}, api.Fault{}},
		{[]string{"A:B B:A"}, api.Fault{In: 2, At: 0, Err: api.ErrRing}},
		{[]string{"A:B", "B:A"}, api.Fault{In: 2, At: 0, Err: api.ErrRing}},
		{[]string{"X: A:B", "B:C", "C:A"}, api.Fault{In: 2, At: 1, Err: api.ErrRing}},
		{[]string{"H:A A:B", "B:A"}, api.Fault{In: 2, At: 1, Err: api.ErrRing}},
		{[]string{"H:G G:F F:A", "", "B:C X:", "A:B C:A"}, api.Fault{In: 22, At: 0, Err: api.ErrRing}},
		{[]string{"H:G G:A", "A:B B:A C:D D:C"}, api.Fault{In: 12, At: 0, Err: api.ErrRing}},
		{[]string{"H:A U:none A:B", "B:A"}, api.Fault{In: 2, At: 1, Err: api.ErrUnknown}},
		{[]string{"H:A A:B U:none", "B:A"}, api.Fault{In: 2, At: 1, Err: api.ErrRing}},
		{[]string{"H:U", "U:none"}, api.Fault{In: 12, At: 0, Err: api.ErrUnknown}},
		{[]string{"H:none", "U:none"}, api.Fault{In: 2, At: 0, Err: api.ErrUnknown}},
		{[]string{"A:A"}, api.Fault{In: 2, At: 0, Err: api.ErrRing}},
		{[]string{"A:B", "B:B"}, api.Fault{In: 12, At: 0, Err: api.ErrRing}},
		{[]string{"A:a", "b:"}, api.Fault{In: 2, At: 0, Err: api.ErrUnknown}},
	} {
		var ls []api.Language
		for i, text := range c.ls {
			l := api.Language{Name: string(rune('a' + i)), Version: 1}
			for _, word := range strings.Fields(text) {
				name, super, _ := strings.Cut(word, ":")
				l.Concepts = append(l.Concepts, api.Concept{Name: name, Super: super})
			}
			ls = append(ls, l)
		}
		tells(t, strings.Join(c.ls, " | "), ls, c.want)
	}
}

// P5.1, P5.2: languages' names, Uses and versions play no part beside themselves; nor does what is called the same but is another thing.
func TestNothingElse(t *testing.T) {
	ls := []api.Language{
		{Name: "x", Version: 1, Uses: []string{"none", "y"}, Concepts: []api.Concept{
			{Name: "x", Super: "y", Props: []api.PropDef{{Name: "k", Type: 1}}, Kids: []api.KidDef{{Role: "p", Concept: "z"}}, Refs: []api.RefDef{{Role: "q", Concept: "x"}}},
			{Name: "z", Super: "y", Props: []api.PropDef{{Name: "k", Type: 2}}, Kids: []api.KidDef{{Role: "p", Concept: "z"}}, Refs: []api.RefDef{{Role: "q", Concept: "z"}}},
		}, Rules: []api.Rule{{Concept: "x", Name: "q"}, {Concept: "x", Name: "q", Scope: true}, {Concept: "z", Name: "q", Scope: true}}},
		{Name: "y", Version: 9, Uses: []string{"x"}, Concepts: []api.Concept{
			{Name: "y", Props: []api.PropDef{{Name: "p", Type: 1}}, Kids: []api.KidDef{{Role: "q", Concept: "x"}}, Refs: []api.RefDef{{Role: "k", Concept: "y"}}},
		}, Rules: []api.Rule{{Concept: "y", Name: "q"}, {Concept: "x", Name: "k", Scope: true}}, Editors: []api.Editor{{Concept: "x"}}, Templates: []api.Template{{Concept: "x"}}},
	}
	tells(t, "x, y and z", ls, api.Fault{})
}

// P5.1, P5.3, P5.6, P0.1: tables of nothing: a nil one, one that nobody made, and one that New made of no languages, which counts.
func TestNoLanguages(t *testing.T) {
	for _, m := range []*meta.Table{nil, {}, new(meta.Table)} {
		for range 2 {
			for _, a := range append([]string{"Num", "x"}, others...) {
				if got := toldOf(m, a); !isSame(got, slow(nil).told(a)) {
					t.Errorf("of %q: %+v", a, got)
				}
				for _, b := range append([]string{"Num", "x"}, others...) {
					if m.Below(a, b) != (a == b) || m.Uses() != 0 {
						t.Errorf("Below of %q and %q, Uses %d", a, b, m.Uses())
					}
				}
			}
			if len(m.Concepts()) > 0 {
				t.Errorf("Concepts: %q", m.Concepts())
			}
		}
	}
	for _, ls := range [][]api.Language{nil, {}, {{Name: "a", Version: 1}}} {
		tells(t, "nothing", ls, api.Fault{})
	}
	m, f := meta.New(nil)
	if f != (api.Fault{}) || !m.Below("x", "x") || m.Below("x", "y") || m.Uses() != 2 {
		t.Errorf("of no languages: %v, Uses %d", f, m.Uses())
	}
}
