package sheet_test

import (
	"strconv"
	"strings"
	"testing"

	"topiary/api"
	"topiary/sheet"
)

// chain is the model, and its text, of nodes of which each is the kid of the one ahead of it.
func chain(deep int) (api.Model, string) {
	m, s := api.Model{Next: deep + 2}, "next "+strconv.Itoa(deep+2)+"\n"
	for id := 1; id <= deep; id++ {
		n := api.Node{ID: id, Concept: "A", Parent: id - 1, Role: "r"}
		line := strings.Repeat(" ", id-1) + strconv.Itoa(id) + " r A\n"
		if id == 1 {
			n.Role, line = "", "1 A\n"
		}
		if id < deep {
			n.Kids = []int{id + 1}
		}
		m.Nodes, s = append(m.Nodes, n), s+line
	}
	return m, s
}

// P3.2: 63 blanks and 64, of all kinds of lines.
func TestDepth(t *testing.T) {
	m, s := chain(64)
	prints(t, m, s)
	reads(t, s, m)
	b63, b64 := strings.Repeat(" ", 63), strings.Repeat(" ", 64)
	refuses(t, s+b64+"65 r A\n", api.ErrForm, 66)
	refuses(t, s+b63+".a=\"1\"\n", api.ErrForm, 66)
	refuses(t, s+b64+" .a=\"1\"\n", api.ErrForm, 66)
	parsed(t, s+b63+"65 r A\n")
	parsed(t, s+b64+".a=\"1\"\n"+b64+">a=1\n"+b63+"65 r A\n")
	_, short := chain(63)
	refuses(t, short+b64+"64 r A\n", api.ErrForm, 65)
	parsed(t, short+b63+"64 r A\n")
	parsed(t, short+" 64 r A\n")
}

// P3.2: 4096 nodes' lines and one more, whatever other lines there are.
func TestNodes(t *testing.T) {
	m, b := api.Model{Next: 5000}, new(strings.Builder)
	b.WriteString("next 5000\n")
	lines := 1
	for id := 1; id <= 4096; id++ {
		n := api.Node{ID: id, Concept: "A"}
		if id%3 == 0 {
			n.Parent, n.Role = id-1, "r"
			m.Nodes[id-2].Kids = []int{id}
			b.WriteString(" " + strconv.Itoa(id) + " r A\n")
		} else {
			b.WriteString(strconv.Itoa(id) + " A\n")
		}
		if id%3 == 1 {
			n.Props, n.Refs = []api.Prop{{Name: "a", Value: "1"}}, []api.Ref{{Role: "b", Target: 4999}}
			b.WriteString(" .a=\"1\"\n >b=4999\n")
			lines += 2
		}
		m.Nodes = append(m.Nodes, n)
		lines++
	}
	s := b.String()
	prints(t, m, s)
	reads(t, s, m)
	for _, line := range []string{"4097 A\n", " 4097 r A\n"} {
		refuses(t, s+line, api.ErrForm, lines+1)
	}
	// The last node, 4096, is a root and has its properties told: a reference's line is right behind them still.
	parsed(t, s+" >c=1\n")
}

// P3.1, P3.2: a value of 4096 bytes and of one more, in one byte each and in four.
func TestValues(t *testing.T) {
	for _, b := range []string{"v", "\"", "\n", "\x00"} {
		m := api.Model{Next: 2, Nodes: []api.Node{{ID: 1, Concept: "A", Props: []api.Prop{{Name: "a", Value: strings.Repeat(b, 4096)}}}}}
		s := text("next 2", "1 A", " .a="+quoted(strings.Repeat(b, 4096)))
		prints(t, m, s)
		reads(t, s, m)
		refuses(t, text("next 2", "1 A", " .a="+quoted(strings.Repeat(b, 4097))), api.ErrForm, 3)
		m.Nodes[0].Props[0].Value += b
		if s, e := sheet.Print(m); s != "" || e != api.ErrModel {
			t.Errorf("4097 times %q: %d bytes, %d", b, len(s), e)
		}
	}
}

// filled is a model, and its text of that many bytes.
func filled(bytes int) (api.Model, string) {
	b := new(strings.Builder)
	b.WriteString("next 2\n1 A\n")
	var props []api.Prop
	for i := 1000; b.Len() < bytes; i++ {
		name := "p" + strconv.Itoa(i)
		frame := len(" .=\"\"\n") + len(name)
		left := bytes - b.Len() - frame
		// The line behind this one needs its own frame.
		n := min(left, 4096)
		if left > n && left-n < frame {
			n -= frame
		}
		value := strings.Repeat("v", n)
		props = append(props, api.Prop{Name: name, Value: value})
		b.WriteString(" ." + name + "=\"" + value + "\"\n")
	}
	return api.Model{Next: 2, Nodes: []api.Node{{ID: 1, Concept: "A", Props: props}}}, b.String()
}

// P3.1, P3.2: a text of 2^20 bytes and of one more.
func TestLength(t *testing.T) {
	const most = 1 << 20
	for n := most - 3; n <= most; n++ {
		m, s := filled(n)
		if len(s) != n {
			t.Fatalf("%d bytes, not %d", len(s), n)
		}
		prints(t, m, s)
		reads(t, s, m)
	}
	for _, n := range []int{most + 1, most + 2, 3 * most} {
		m, s := filled(n)
		if told, e := sheet.Print(m); told != "" || e != api.ErrLong {
			t.Errorf("Print of %d bytes: %d bytes, %d", n, len(told), e)
		}
		refuses(t, s, api.ErrLong, 0)
		m.Next = 1
		if told, e := sheet.Print(m); told != "" || e != api.ErrModel {
			t.Errorf("Print of what isn't right: %d bytes, %d", len(told), e)
		}
	}
	// The bytes count ahead of what they are, and the lines only within the length.
	for _, c := range []struct {
		s    string
		line int
	}{{"", 1}, {"\n", 1}, {"next 1\n", 2}, {"next 2\n1 A\n", 3}, {"next 2\n1 A\n .a=\"", 3}} {
		for _, b := range []string{" ", "\n", "9", "\"", "v", "\x00"} {
			whole := c.s + strings.Repeat(b, most-len(c.s))
			refuses(t, whole, api.ErrForm, c.line)
			refuses(t, whole+b, api.ErrLong, 0)
		}
	}
}

// P3.1: a text is too long by nodes alone, by references alone, by what the forms of its bytes need.
func TestLongOtherwise(t *testing.T) {
	var roots, refs, forms api.Model
	roots.Next, refs.Next, forms.Next = 1<<20+1, 1<<20+1, 2
	for i := range 4096 {
		n := api.Node{ID: 1<<20 - 4095 + i, Concept: strings.Repeat("A", 32)}
		for r := range 8 {
			n.Refs = append(n.Refs, api.Ref{Role: strings.Repeat("r", 25) + strconv.Itoa(r), Target: 1 << 20})
		}
		refs.Nodes = append(refs.Nodes, n)
		n.Refs = nil
		roots.Nodes = append(roots.Nodes, n)
	}
	forms.Nodes = []api.Node{{ID: 1, Concept: "A"}}
	for i := range 64 {
		forms.Nodes[0].Props = append(forms.Nodes[0].Props, api.Prop{Name: "p" + strconv.Itoa(10+i), Value: strings.Repeat("\xff", 4096)})
	}
	if s, e := sheet.Print(roots); e != api.OK || len(s) != len("next 1048577\n")+4096*len("1048576 ")+4096*33 {
		t.Errorf("roots: %d bytes, %d", len(s), e)
	}
	for _, m := range []api.Model{refs, forms} {
		if s, e := sheet.Print(m); s != "" || e != api.ErrLong {
			t.Errorf("%d nodes: %d bytes, %d", len(m.Nodes), len(s), e)
		}
	}
	forms.Nodes[0].Props = forms.Nodes[0].Props[:63]
	if s, e := sheet.Print(forms); e != api.OK || len(s) != len("next 2\n1 A\n")+63*(4*4096+len(" .p10=\"\"\n")) {
		t.Errorf("forms: %d bytes, %d", len(s), e)
	}
}
