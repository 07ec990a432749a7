package sheet_test

import (
	"slices"
	"testing"
	"unsafe"

	"topiary/api"
	"topiary/sheet"
)

// A stretch is the memory of a list or of a text, the spare room behind it included.
type stretch struct {
	from, to uintptr
	of       string
}

func stretchOf[E any](l []E, of string) []stretch {
	if cap(l) == 0 {
		return nil
	}
	from := uintptr(unsafe.Pointer(unsafe.SliceData(l)))
	return []stretch{{from, from + uintptr(cap(l))*unsafe.Sizeof(l[:1][0]), of}}
}

func stretchOfText(s, of string) []stretch {
	from := uintptr(unsafe.Pointer(unsafe.StringData(s)))
	return []stretch{{from, from + uintptr(len(s)), of}}
}

func listsOf(m api.Model, of string) []stretch {
	out := stretchOf(m.Nodes, of+": Nodes")
	for _, n := range m.Nodes[:cap(m.Nodes)] {
		out = append(out, stretchOf(n.Props, of+": Props")...)
		out = append(out, stretchOf(n.Kids, of+": Kids")...)
		out = append(out, stretchOf(n.Refs, of+": Refs")...)
	}
	return out
}

func textsOf(m api.Model) []stretch {
	var out []stretch
	for _, n := range m.Nodes {
		out = append(append(out, stretchOfText(n.Concept, "Concept")...), stretchOfText(n.Role, "Role")...)
		for _, p := range n.Props {
			out = append(append(out, stretchOfText(p.Name, "a name")...), stretchOfText(p.Value, "a value")...)
		}
		for _, r := range n.Refs {
			out = append(out, stretchOfText(r.Role, "a reference's role")...)
		}
	}
	return out
}

// apart tells of stretches that share memory.
func apart(t *testing.T, l []stretch) {
	t.Helper()
	for i, a := range l {
		for _, b := range l[:i] {
			if a.from < b.to && b.from < a.to {
				t.Fatalf("%s and %s share memory", a.of, b.of)
			}
		}
	}
}

// roomBehind is the list with spare room, in which something stands.
func roomBehind[E any](l []E, spare E) []E {
	out := append(make([]E, 0, len(l)+3), l...)
	for i := range 3 {
		out[:cap(out)][len(l)+i] = spare
	}
	return out
}

func spacious(m api.Model) api.Model {
	for i := range m.Nodes {
		n := &m.Nodes[i]
		n.Props = roomBehind(n.Props, api.Prop{Name: "spare", Value: "room"})
		n.Kids = roomBehind(n.Kids, 77)
		n.Refs = roomBehind(n.Refs, api.Ref{Role: "spare", Target: 77})
	}
	m.Nodes = roomBehind(m.Nodes, api.Node{ID: 77, Concept: "Spare"})
	return m
}

// whole is a second model of the same, with the spare room as part of it.
func whole(m api.Model) api.Model {
	nodes := slices.Clone(m.Nodes[:cap(m.Nodes)])
	for i, n := range nodes {
		nodes[i].Props = slices.Clone(n.Props[:cap(n.Props)])
		nodes[i].Kids = slices.Clone(n.Kids[:cap(n.Kids)])
		nodes[i].Refs = slices.Clone(n.Refs[:cap(n.Refs)])
	}
	return api.Model{Next: m.Next, Nodes: nodes}
}

// P0.4: what is handed to Print stays as it is, the spare room too.
func TestPrintChangesNothing(t *testing.T) {
	m := spacious(sample())
	was := whole(m)
	prints(t, m, sampleText())
	if !equal(whole(m), was) {
		t.Errorf("handed in: %v, then %v", was, whole(m))
	}
}

// P0.4: what Parse answers has memory of its own, list by list, and nothing of the text's.
func TestParsedMemory(t *testing.T) {
	for seed := range uint64(40) {
		s := printed(grown(newDice(seed+9000), 80))
		a, b := parsed(t, s), parsed(t, s)
		apart(t, append(listsOf(a, "first"), listsOf(b, "second")...))
		handed := stretchOfText(s, "the text")
		for _, piece := range textsOf(a) {
			apart(t, append(handed, piece))
		}
	}
}

// P0.3, P0.4: what is done to an answer changes no later one, and a refused call neither.
func TestNothingKept(t *testing.T) {
	m := parsed(t, sampleText())
	for i := range m.Nodes {
		n := &m.Nodes[i]
		for k := range n.Kids {
			n.Kids[k] = -5
		}
		for k := range n.Props {
			n.Props[k].Value = "scribbled"
		}
		*n = api.Node{ID: -5}
	}
	if s, e := sheet.Print(m); s != "" || e != api.ErrModel {
		t.Errorf("Print(%v): %q, %d", m, s, e)
	}
	refuses(t, sampleText()+"1 A\n", api.ErrForm, 9)
	reads(t, sampleText(), sample())
	prints(t, sample(), sampleText())
}
