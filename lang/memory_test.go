package lang_test

import (
	"slices"
	"testing"
	"unsafe"

	"topiary/api"
	"topiary/lang"
)

// A stretch is the memory of a list, the spare room behind it included.
type stretch struct {
	from, to uintptr
	of       string
}

func stretchOf[E any](l []E, of string) []stretch {
	if cap(l) == 0 {
		return nil
	}
	from := uintptr(unsafe.Pointer(unsafe.SliceData(l)))
	return []stretch{{from, from + uintptr(cap(l))*unsafe.Sizeof(l[:1][0]), of}}
}

func stretchesOf(c api.Concept, of string) []stretch {
	out := stretchOf(c.Props, of+": Props")
	out = append(out, stretchOf(c.Kids, of+": Kids")...)
	return append(out, stretchOf(c.Refs, of+": Refs")...)
}

// apart tells of lists that share memory.
func apart(t *testing.T, l []stretch) {
	t.Helper()
	for i, a := range l {
		for _, b := range l[:i] {
			if a.from < b.to && b.from < a.to {
				t.Fatalf("%s and %s share memory", a.of, b.of)
			}
		}
	}
}

// roomBehind is the list with spare room, in which something stands.
func roomBehind[E any](l []E, spare E) []E {
	out := append(make([]E, 0, len(l)+3), l...)
	for i := range 3 {
		out[:cap(out)][len(l)+i] = spare
	}
	return out
}

func roomInSide(l []api.Side) []api.Side {
	out := roomBehind(l, api.Side{Kind: 77, Args: []int{77}})
	for i, s := range l {
		out[i].Args = roomBehind(s.Args, 77)
	}
	return out
}

// spacious is the definition in lists that have spare room.
func spacious(l api.Language) api.Language {
	l.Uses = roomBehind(l.Uses, "spare")
	l.Concepts = roomBehind(l.Concepts, api.Concept{Name: "Spare"})
	for i, c := range l.Concepts {
		l.Concepts[i].Props = roomBehind(c.Props, api.PropDef{Name: "spare"})
		l.Concepts[i].Kids = roomBehind(c.Kids, api.KidDef{Role: "spare"})
		l.Concepts[i].Refs = roomBehind(c.Refs, api.RefDef{Role: "spare"})
	}
	l.Rules = roomBehind(l.Rules, api.Rule{Name: "spare"})
	l.Equations = roomBehind(l.Equations, api.Equation{Concept: "Spare"})
	for i, q := range l.Equations {
		l.Equations[i].Left, l.Equations[i].Right = roomInSide(q.Left), roomInSide(q.Right)
	}
	l.Editors = roomBehind(l.Editors, api.Editor{Concept: "Spare"})
	for i, w := range l.Editors {
		l.Editors[i].Cells = roomBehind(w.Cells, api.Cell{Kind: 77})
	}
	l.Templates = roomBehind(l.Templates, api.Template{Concept: "Spare"})
	for i, w := range l.Templates {
		l.Templates[i].Pieces = roomBehind(w.Pieces, api.Piece{Kind: 77})
	}
	return l
}

func all[E any](l []E) []E { return slices.Clone(l[:cap(l)]) }

// kept is a second definition of the same, with the spare room as part of it.
func kept(l api.Language) api.Language {
	l.Uses, l.Concepts, l.Rules, l.Equations, l.Editors, l.Templates = all(l.Uses), all(l.Concepts), all(l.Rules), all(l.Equations), all(l.Editors), all(l.Templates)
	for i, c := range l.Concepts {
		l.Concepts[i].Props, l.Concepts[i].Kids, l.Concepts[i].Refs = all(c.Props), all(c.Kids), all(c.Refs)
	}
	for i, q := range l.Equations {
		l.Equations[i].Left, l.Equations[i].Right = all(q.Left), all(q.Right)
		for _, side := range [][]api.Side{l.Equations[i].Left, l.Equations[i].Right} {
			for k, s := range side {
				side[k].Args = all(s.Args)
			}
		}
	}
	for i, w := range l.Editors {
		l.Editors[i].Cells = all(w.Cells)
	}
	for i, w := range l.Templates {
		l.Templates[i].Pieces = all(w.Pieces)
	}
	return l
}

// P0.4: what is handed in stays as it is, the spare room too; what is answered shares nothing with it, nor among itself.
func TestMemory(t *testing.T) {
	wrong := whole()
	wrong.Templates[2].Concept = ""
	twice := whole()
	twice.Concepts = append(twice.Concepts, twice.Concepts...)
	for _, l := range []api.Language{spacious(whole()), spacious(wrong), spacious(twice), spacious(api.Language{})} {
		was := kept(l)
		lang.Check(l)
		lang.Same(l, l)
		lang.Same(l, clone(l))
		for _, q := range l.Equations {
			lang.Tree(q.Left)
			lang.Tree(q.Right)
		}
		answers := append(stretchOf(lang.Names(l), "Names"), stretchOf(lang.Names(l), "Names again")...)
		answers = append(answers, stretchOf(l.Uses, "the Uses handed in")...)
		for _, c := range l.Concepts {
			answers = append(answers, stretchesOf(c, "handed in")...)
		}
		for _, name := range lang.Names(l) {
			first, ok := lang.Concept(l, name)
			second, _ := lang.Concept(l, name)
			if !ok {
				t.Errorf("Concept(%q): none", name)
			}
			answers = append(append(answers, stretchesOf(first, name)...), stretchesOf(second, name+" again")...)
		}
		apart(t, answers)
		if !isSame(kept(l), was) {
			t.Errorf("handed in: %+v, then %+v", was, kept(l))
		}
	}
}

// P0.3, P0.4: what is done to an answer changes nothing of the definition, nor of a later answer; and the other way about.
func TestNothingKept(t *testing.T) {
	l := whole()
	c, _ := lang.Concept(l, "Sum")
	names := lang.Names(l)
	c.Props[0], c.Kids[0], c.Refs[0] = api.PropDef{}, api.KidDef{}, api.RefDef{}
	names[0] = "scribbled"
	if !isSame(l, whole()) {
		t.Errorf("the definition: %+v", l)
	}
	c, _ = lang.Concept(l, "Sum")
	names = lang.Names(l)
	l.Concepts[0].Props[0], l.Concepts[0].Kids[0], l.Concepts[0].Refs[0] = api.PropDef{}, api.KidDef{}, api.RefDef{}
	l.Concepts[1].Name, l.Concepts[2].Name, l.Concepts[0].Name = "x", "y", "z"
	if !isSame(api.Language{Concepts: []api.Concept{c}}, api.Language{Concepts: whole().Concepts[:1]}) || !slices.Equal(names, []string{"Num", "Sum", "a"}) {
		t.Errorf("the answers: %+v, %v", c, names)
	}
	if f := lang.Check(l); f != firstFault(l) {
		t.Errorf("Check of what was changed: %v", f)
	}
	if f := lang.Check(whole()); f != (api.Fault{}) {
		t.Errorf("Check of the first one again: %v", f)
	}
}

// P4.2: lists that are nil and those that are empty; definitions that may not be.
func TestSameOfAny(t *testing.T) {
	empty := api.Language{Uses: []string{}, Concepts: []api.Concept{}, Rules: []api.Rule{}, Equations: []api.Equation{}, Editors: []api.Editor{}, Templates: []api.Template{}}
	if !lang.Same(empty, api.Language{}) || !lang.Same(api.Language{}, empty) || !lang.Same(api.Language{}, api.Language{}) {
		t.Error("nil lists and empty ones")
	}
	bare := api.Language{Concepts: make([]api.Concept, 1), Equations: make([]api.Equation, 1), Editors: make([]api.Editor, 1), Templates: make([]api.Template, 1)}
	filled := clone(bare)
	filled.Concepts[0] = api.Concept{Props: []api.PropDef{}, Kids: []api.KidDef{}, Refs: []api.RefDef{}}
	filled.Equations[0] = api.Equation{Left: []api.Side{}, Right: []api.Side{}}
	filled.Editors[0].Cells, filled.Templates[0].Pieces = []api.Cell{}, []api.Piece{}
	if !lang.Same(bare, filled) || !lang.Same(filled, bare) || lang.Same(bare, api.Language{}) || lang.Same(api.Language{}, bare) {
		t.Error("nil lists and empty ones of elements")
	}
	bare.Equations[0].Left, filled.Equations[0].Left = []api.Side{{Args: []int{}}}, []api.Side{{}}
	if !lang.Same(bare, filled) || !lang.Same(filled, bare) {
		t.Error("nil Args and empty ones")
	}
	for i, less := range lesser(whole()) {
		if lang.Same(less, whole()) || lang.Same(whole(), less) || !lang.Same(less, lesser(whole())[i]) {
			t.Errorf("one element less: %+v", less)
		}
	}
}
