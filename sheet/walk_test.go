package sheet_test

import (
	"slices"
	"strings"
	"testing"

	"topiary/api"
	"topiary/arena"
	"topiary/sheet"
)

// P3.1 to P3.5: models that have grown by arena's calls, there and back.
func TestWalks(t *testing.T) {
	nodes, lines := 0, 0
	for seed := range uint64(600) {
		m := grown(newDice(seed), 1+int(seed)/4)
		s := printed(m)
		prints(t, m, s)
		reads(t, s, m)
		inOrder(t, m, s)
		lineByLine(t, s)
		nodes, lines = nodes+len(m.Nodes), lines+strings.Count(s, "\n")
	}
	// Walks that come past hardly anything would hold for nothing.
	if nodes < 4000 || lines < 8000 {
		t.Errorf("%d nodes, %d lines", nodes, lines)
	}
}

// inOrder asks P3.5.
func inOrder(t *testing.T, m api.Model, s string) {
	t.Helper()
	var ids []int
	for l := range strings.Lines(s) {
		if id, _ := isNodes(strings.TrimSuffix(l, "\n")); id > 0 {
			ids = append(ids, id)
		}
	}
	if !slices.Equal(ids, arena.Order(m)) {
		t.Fatalf("%q: %v, not %v", s, ids, arena.Order(m))
	}
}

// lineByLine asks P3.4 of a model's text.
func lineByLine(t *testing.T, s string) {
	t.Helper()
	for i := range s {
		if s[i] != '\n' {
			continue
		}
		m, at, e := sheet.Parse(s[:i+1])
		if e != api.OK || at != 0 || arena.Check(m) != api.OK {
			t.Fatalf("Parse of the first lines of %q, %d bytes: %d, %d", s, i+1, at, e)
		}
		prints(t, m, s[:i+1])
	}
}

// P3.2 to P3.4: texts with a byte more, a byte less, another byte.
func TestBytes(t *testing.T) {
	for _, whole := range []string{sampleText(), text("next 5", "2 A", ` .a=""`, ` .b="\n\x00"`, " >r=1", " >s=2", " 1 r B", "  3 s C", "  >r=4", " 4 r D", `  .a="\\\""`)} {
		for i := range whole {
			isToldLine(t, whole[:i]+whole[i+1:])
			isToldLine(t, whole[:i]+whole[i:i+1]+whole[i:])
			for _, b := range []byte("\n .>=\"\\?_0125xnAaz\t\x00\xff") {
				isToldLine(t, whole[:i]+string([]byte{b})+whole[i:])
				isToldLine(t, whole[:i]+string([]byte{b})+whole[i+1:])
			}
		}
	}
}

// P3.2 to P3.4: all texts of a few lines, of which each is right somewhere; behind a line that is wrong none is asked any more.
func TestAllShortTexts(t *testing.T) {
	pool := []string{"next 4", "1 A", "2 A", "3 A", " 1 r A", " 2 r B", " 3 s C", "  2 r B", "  3 r B", "   3 r B", ` .a="1"`, ` .b=""`, `  .a="\n"`, `   .a="1"`, " >a=1", " >b=3", "  >a=2", "   >b=1", "4 A", " >c=4", ""}
	right := 0
	var grow func(ahead []string)
	grow = func(ahead []string) {
		for _, line := range pool {
			lines := append(slices.Clone(ahead), line)
			isToldLine(t, text(lines...))
			if firstWrong(text(lines...)) != 0 {
				refuses(t, text(append(lines, "next 4", "1 A", "2 A")...), api.ErrForm, len(lines))
				continue
			}
			right++
			if len(lines) < 7 {
				grow(lines)
			}
		}
	}
	grow(nil)
	if right < 2000 {
		t.Errorf("%d texts are right", right)
	}
}

// P3.3, P3.4: of lines that are thrown one behind the other, those up to the one that is told are a model's text.
func TestThrownLines(t *testing.T) {
	for seed := range uint64(3000) {
		d := newDice(seed + 5000)
		lines := []string{"next " + d.of("9", "6", "3")}
		for range d.IntN(12) {
			lines = append(lines, strings.Repeat(" ", d.IntN(4))+d.of("1 A", "2 r A", "3 A", "4 r A", "5 s B", "6 A", "7 r A", `.a="1"`, `.b="2"`, `.c=""`, ">a=1", ">b=2", ">c=5"))
		}
		s := text(lines...)
		isToldLine(t, s)
		if _, at, e := sheet.Parse(s); e != api.OK {
			lineByLine(t, text(lines[:max(at-1, 1)]...))
			refuses(t, text(lines[:at]...), api.ErrForm, at)
		}
	}
}
