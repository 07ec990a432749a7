package sheet_test

import (
	"strings"
	"testing"

	"topiary/api"
	"topiary/arena"
	"topiary/sheet"
)

// sample is the chapter's M.
func sample() api.Model {
	return api.Model{Next: 12, Nodes: []api.Node{
		{ID: 1, Concept: "Class", Props: []api.Prop{{Name: "name", Value: "a\"b"}}, Kids: []int{4, 2}, Refs: []api.Ref{{Role: "super", Target: 9}}},
		{ID: 2, Concept: "Field", Parent: 1, Role: "extra"},
		{ID: 3, Concept: "?Kept"},
		{ID: 4, Concept: "Field", Parent: 1, Role: "members", Props: []api.Prop{{Name: "x", Value: "1"}}},
	}}
}

func sampleText() string {
	return text("next 12", "1 Class", ` .name="a\"b"`, " >super=9", " 4 members Field", `  .x="1"`, " 2 extra Field", "3 ?Kept")
}

// text is lines, each with its end.
func text(lines ...string) string {
	return strings.Join(lines, "\n") + "\n"
}

// reads asks that the text is read as that model.
func reads(t *testing.T, s string, want api.Model) {
	t.Helper()
	if m, at, e := sheet.Parse(s); e != api.OK || at != 0 || !equal(m, want) {
		t.Fatalf("Parse(%.300q): %v, %d, %d", s, m, at, e)
	}
}

// refuses asks that Parse tells that error of the text, at that line, and nothing beside.
func refuses(t *testing.T, s string, e api.Errno, line int) {
	t.Helper()
	if m, at, told := sheet.Parse(s); told != e || at != line || !equal(m, api.Model{}) {
		t.Fatalf("Parse(%.300q): %d nodes, %d, %d; not %d, %d", s, len(m.Nodes), at, told, line, e)
	}
}

// prints asks that the model is printed so.
func prints(t *testing.T, m api.Model, want string) {
	t.Helper()
	if s, e := sheet.Print(m); e != api.OK || s != want {
		t.Fatalf("Print(%v): %.300q, %d", m, s, e)
	}
}

// P3.1 to P3.3: the chapter's examples, and what stands at the edges of a right model.
func TestThereAndBack(t *testing.T) {
	for _, c := range []struct {
		m api.Model
		s string
	}{
		{sample(), sampleText()},
		{api.Model{Next: 1}, "next 1\n"},
		{api.Model{Next: 1 << 20}, "next 1048576\n"},
		{api.Model{Next: 1<<20 + 1, Nodes: []api.Node{{ID: 1 << 20, Concept: "A", Refs: []api.Ref{{Role: "r", Target: 1}, {Role: "s", Target: 1 << 20}}}}}, text("next 1048577", "1048576 A", " >r=1", " >s=1048576")},
		{api.Model{Next: 5, Nodes: []api.Node{{ID: 1, Concept: "D", Parent: 4, Role: "r"}, {ID: 2, Concept: "B", Parent: 4, Role: "r", Kids: []int{3}}, {ID: 3, Concept: "C", Parent: 2, Role: "s"}, {ID: 4, Concept: "A", Kids: []int{2, 1}}}}, text("next 5", "4 A", " 2 r B", "  3 s C", " 1 r D")},
		{api.Model{Next: 9, Nodes: []api.Node{{ID: 2, Concept: "?C", Parent: 7, Role: "?r"}, {ID: 3, Concept: "D", Parent: 8, Role: "s"}, {ID: 7, Concept: "A", Kids: []int{2}}, {ID: 8, Concept: "B", Kids: []int{3}}}}, text("next 9", "7 A", " 2 ?r ?C", "8 B", " 3 s D")},
		{api.Model{Next: 2, Nodes: []api.Node{{ID: 1, Concept: "A", Props: []api.Prop{{Name: "?b", Value: ""}, {Name: "B", Value: "\n"}, {Name: "a", Value: "\\=\" \x00"}, {Name: "a0", Value: "\u00e9"}, {Name: "a_", Value: "?"}}, Refs: []api.Ref{{Role: "?z", Target: 1}, {Role: "Z", Target: 1}, {Role: "a", Target: 1}}}}}, text("next 2", "1 A", ` .?b=""`, ` .B="\n"`, ` .a="\\=\" \x00"`, ` .a0="\xc3\xa9"`, ` .a_="?"`, " >?z=1", " >Z=1", " >a=1")},
	} {
		prints(t, c.m, c.s)
		reads(t, c.s, c.m)
	}
}

// P3.1: what isn't right is not printed.
func TestPrintOfNoModel(t *testing.T) {
	wrong := []api.Model{{}, {Next: -1}, {Next: 1<<20 + 2}}
	for _, spoil := range []func(m *api.Model){
		func(m *api.Model) { m.Next = 4 },
		func(m *api.Model) { m.Nodes[3].ID = 3 },
		func(m *api.Model) { m.Nodes[0], m.Nodes[1] = m.Nodes[1], m.Nodes[0] },
		func(m *api.Model) { m.Nodes[0].Concept = "" },
		func(m *api.Model) { m.Nodes[1].Concept = "A\n" },
		func(m *api.Model) { m.Nodes[0].Role = "r" },
		func(m *api.Model) { m.Nodes[1].Role = "" },
		func(m *api.Model) { m.Nodes[0].Props[0].Name = "a b" },
		func(m *api.Model) { m.Nodes[0].Props[0].Value = strings.Repeat("v", 4097) },
		func(m *api.Model) { m.Nodes[0].Props = []api.Prop{{Name: "b"}, {Name: "a"}} },
		func(m *api.Model) { m.Nodes[0].Refs[0].Target = 12 },
		func(m *api.Model) { m.Nodes[0].Refs[0].Target = 0 },
		func(m *api.Model) { m.Nodes[0].Kids = []int{4, 2, 9} },
		func(m *api.Model) { m.Nodes[0].Kids = []int{4, 2, 4} },
		func(m *api.Model) { m.Nodes[0].Kids = []int{4} },
		func(m *api.Model) { m.Nodes[1].Parent = 7 },
		func(m *api.Model) { m.Nodes[1].Parent, m.Nodes[1].Kids, m.Nodes[0].Kids = 2, []int{2}, []int{4} },
	} {
		m := sample()
		spoil(&m)
		wrong = append(wrong, m)
	}
	for _, m := range wrong {
		if s, e := sheet.Print(m); s != "" || e != api.ErrModel {
			t.Errorf("Print(%v): %q, %d", m, s, e)
		}
	}
}

// P3.2: the first line.
func TestFirstLine(t *testing.T) {
	for _, s := range []string{"", "next 1", "\n", "next\n", "next \n", "next 0\n", "next -1\n", "next 01\n", "next +1\n", "next  1\n", " next 1\n", "next 1 \n", "Next 1\n", "next 1\r\n", "next 1048578\n", "next 9223372036854775808\n", "next 4294967297\n", "next 18446744073709551617\n", "next 1\x00\n", "1\n", "1 A\n", "\nnext 1\n", "\xef\xbb\xbfnext 1\n", "n"} {
		refuses(t, s, api.ErrForm, 1)
	}
	refuses(t, text("next 1", "next 1"), api.ErrForm, 2)
	refuses(t, text("next 1", ""), api.ErrForm, 2)
	refuses(t, text("next 1", "1 A"), api.ErrForm, 2)
}

// P3.2: a line behind `next 5`, `1 A`, a property b, ` 2 r B` and a reference c.
func TestLines(t *testing.T) {
	ahead := []string{"next 5", "1 A", ` .b=""`, " 2 r B", "  >c=4"}
	for _, line := range []string{"3 A", "4 ?A", " 3 r A", " 3 ?r ?A", "  3 r A", "  >d=1", "  >d=4", "  >ca=2"} {
		s := text(append(ahead, line)...)
		parsed(t, s)
		isToldLine(t, s)
	}
	for _, line := range []string{
		"", " ", "  ", "A", "3", "3 ", " 3", " 3 ", " 3 r", " 3 r ", " 3  A", " 3 A", "3 r A", "3  A", "3 A ", " 3 r A ", " 3  r A", " 3 r  A", " 3 r A B", "\t3 A", "3\tA", "3 A\r", " \t3 r A",
		"3 9", "3 _A", "3 ??A", "3 ?", "3 " + strings.Repeat("A", 33), " 3 9 A", " 3 ? A", " 3 " + strings.Repeat("r", 33) + " A", "3 \u00c9", "3 A\x00",
		"0 A", "-3 A", "+3 A", "03 A", "3.0 A", "0x3 A", "4294967299 A", "18446744073709551619 A", "5 A", "6 A", " 5 r A", " 0 r A", "9999999999999999999999 A",
		"1 A", " 1 r A", "2 A", " 2 r A", "  2 r A", "   3 r A", "    3 r A",
		` .c="1"`, `  .c="1"`, `.c="1"`, `   .c="1"`, " >d=1", "   >d=1", ">d=1",
		"  >c=1", "  >b=1", "  >d=0", "  >d=5", "  >d=-1", "  >d=01", "  >d=+1", "  >d=", "  >d", "  >=1", "  >d=1 ", "  > d=1", "  >d =1", "  >d= 1", "  >d=\"1\"", "  >9=1", "  >?=1", "  >d=1=1", "  >>d=1", "  d=1", "  >d=4294967297", "  >d=18446744073709551617",
		"next 5", "# 3", "\x00",
	} {
		s := text(append(ahead, line)...)
		refuses(t, s, api.ErrForm, 6)
		isToldLine(t, s)
	}
}

// P3.2: a property's line, behind one of the same node.
func TestPropLines(t *testing.T) {
	ahead := []string{"next 5", "1 A", " 2 r B", `  .b="1"`}
	for _, line := range []string{`  .c=""`, `  .ba="="`, `  .b0="\""`, `  .c="\\"`, `  .c="\n"`, `  .c="\x00\x7f\xff"`, `  .c="  .c=\"1\""`, "  .c=\"" + strings.Repeat(`\x00`, 4096) + `"`} {
		s := text(append(ahead, line)...)
		parsed(t, s)
		isToldLine(t, s)
	}
	for _, line := range []string{
		`  .b="1"`, `  .a="1"`, `  .B="1"`, `  .?c="1"`, ` .c="1"`, `   .c="1"`, `.c="1"`,
		`  .c="1" `, `  .c="1`, `  .c=1"`, `  .c=1`, `  .c=`, `  .c`, `  .="1"`, `  .`, `  . c="1"`, `  .c ="1"`, `  .c= "1"`, `  .c="1""`, `  .c=""1`, `  .c="1""2"`, `  .c=="1"`, `  ..c="1"`, `  c="1"`, `  .9="1"`, `  .c.d="1"`, `  .c='1'`,
		`  .c="\q"`, `  .c="\x4"`, `  .c="\x41"`, `  .c="\x0a"`, `  .c="\xFF"`, "  .c=\"\t\"", "  .c=\"\u00e9\"", "  .c=\"\x00\"", `  .c="\"`, "  .c=\"" + strings.Repeat(`\x00`, 4097) + `"`, "  ." + strings.Repeat("c", 33) + `="1"`,
	} {
		s := text(append(ahead, line)...)
		refuses(t, s, api.ErrForm, 5)
		isToldLine(t, s)
	}
}

// P3.2: what a line hangs on of those ahead of it, one thing at a time.
func TestLinesAhead(t *testing.T) {
	for _, c := range []struct {
		lines []string
		at    int
	}{
		{[]string{"next 5", "2 A", "1 B"}, 3}, {[]string{"next 5", "2 A", "2 B"}, 3}, {[]string{"next 5", "3 A", " 4 r B", "2 C"}, 4}, {[]string{"next 5", "2 A", " 4 r B", "3 C"}, 0}, {[]string{"next 5", "2 A", " 1 r B", "3 C"}, 0}, {[]string{"next 5", "2 A", " 3 r B", "3 C"}, 4},
		{[]string{"next 5", "5 A"}, 2}, {[]string{"next 5", "1 A", " 5 r A"}, 3}, {[]string{"next 5", "1 A", "  2 r B"}, 3}, {[]string{"next 5", " 1 r A"}, 2}, {[]string{"next 5", "1 A", " 2 r B", "3 C", "  4 r D"}, 5}, {[]string{"next 5", "1 A", " 2 r B", "3 C", " 4 r D"}, 0},
		{[]string{"next 5", "1 A", ` .b="1"`, ` .a="1"`}, 4}, {[]string{"next 5", "1 A", ` .b="1"`, ` .b="2"`}, 4}, {[]string{"next 5", "1 A", ` .b="1"`, " 2 r B", `  .a="1"`}, 0}, {[]string{"next 5", "1 A", ` .b="1"`, "2 B", ` .a="1"`}, 0},
		{[]string{"next 5", "1 A", " >b=1", ` .a="1"`}, 4}, {[]string{"next 5", "1 A", " >b=1", ` .c="1"`}, 4}, {[]string{"next 5", "1 A", " >b=1", "2 B", ` .a="1"`}, 0}, {[]string{"next 5", "1 A", " >b=1", "2 B", " >a=1"}, 0}, {[]string{"next 5", "1 A", ` .b="1"`, " >a=1"}, 0}, {[]string{"next 5", "1 A", " >b=1", " >a=1"}, 4}, {[]string{"next 5", "1 A", " >b=1", " >b=2"}, 4},
		{[]string{"next 5", "1 A", " >b=5"}, 3}, {[]string{"next 5", "1 A", " >b=4"}, 0}, {[]string{"next 5", "1 A", " 2 r B", ` .a="1"`}, 4}, {[]string{"next 5", "1 A", " 2 r B", " >a=1"}, 4}, {[]string{"next 5", "1 A", `.a="1"`}, 3}, {[]string{"next 5", "1 A", ">a=1"}, 3},
		{[]string{"next 5", `.a="1"`}, 2}, {[]string{"next 5", ` .a="1"`}, 2}, {[]string{"next 5", ">a=1"}, 2}, {[]string{"next 5", " >a=1"}, 2}, {[]string{"next 5", "1 A", ""}, 3}, {[]string{"next 5", "1 A", "", "2 B"}, 3}, {[]string{"next 5", "1 A", "x", "1 A", "y"}, 3},
	} {
		s := text(c.lines...)
		if firstWrong(s) != c.at {
			t.Errorf("%q: the slow one tells %d", s, firstWrong(s))
		}
		isToldLine(t, s)
	}
}

// P3.2: the last line without its end, wherever it is cut off.
func TestLastLineWithoutEnd(t *testing.T) {
	s := sampleText()
	for n := range s {
		lines := strings.Count(s[:n], "\n")
		if n > 0 && s[n-1] == '\n' {
			isToldLine(t, s[:n])
			continue
		}
		refuses(t, s[:n], api.ErrForm, lines+1)
	}
}

// isToldLine holds Parse's answer, and Print's of what it answers, against the slow ones.
func isToldLine(t *testing.T, s string) {
	t.Helper()
	if line := firstWrong(s); line > 0 {
		refuses(t, s, api.ErrForm, line)
		return
	}
	m := parsed(t, s)
	if arena.Check(m) != api.OK || printed(m) != s {
		t.Fatalf("Parse(%.300q): %v", s, m)
	}
	prints(t, m, s)
}

// parsed is the model of a right text.
func parsed(t *testing.T, s string) api.Model {
	t.Helper()
	m, at, e := sheet.Parse(s)
	if e != api.OK || at != 0 {
		t.Fatalf("Parse(%.300q): %d, %d", s, at, e)
	}
	return m
}
