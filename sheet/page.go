package sheet

import (
	"cmp"
	"sort"

	"topiary/api"
	"topiary/names"
)

// What the kinds of lines begin with, behind their blanks; a node's line begins with its ID.
const (
	opening = "next "
	propBy  = "."
	refBy   = ">"
)

// A page is a model's text, as far as it is written.
type page struct {
	text []byte
}

// long tells whether the text has more bytes than may be told.
func (p *page) long() bool { return len(p.text) > api.MaxTold }

// node writes the lines of a node that stands so deep.
func (p *page) node(n *api.Node, deep int) {
	role := ""
	if n.Parent != 0 {
		role = n.Role + " "
	}
	p.line(deep-1, show(n.ID)+" "+role+n.Concept)
	for _, prop := range n.Props {
		p.line(deep, propBy+prop.Name+"="+names.Quote(prop.Value))
	}
	for _, ref := range n.Refs {
		p.line(deep, refBy+ref.Role+"="+show(ref.Target))
	}
}

// line writes a line, unless the text is too long already: then it is refused whatever comes, and need not grow with the model.
func (p *page) line(blanks int, s string) {
	if p.long() {
		return
	}
	for range blanks {
		p.text = append(p.text, ' ')
	}
	p.text = append(p.text, s...)
	p.text = append(p.text, '\n')
}

func show(n int) string { return names.Show(int64(n)) }

// node answers the node with that ID, in its place; there must be one.
func node(m api.Model, id int) *api.Node {
	i, _ := sort.Find(len(m.Nodes), func(i int) int { return cmp.Compare(id, m.Nodes[i].ID) })
	return &m.Nodes[i]
}
