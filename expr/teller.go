package expr

import (
	"topiary/api"
	"topiary/names"
)

// The sides of a token at which no blank stands.
const (
	apart      = 0
	closeLeft  = 1
	closeRight = 2
	closeBoth  = closeLeft | closeRight
)

// A teller tells an expression's own text, token by token.
type teller struct {
	nodes []api.ENode
	text  []byte
	sides int // the sides of the last token at which no blank stands
}

// put tells a token, and the blank ahead of it, if there is one.
func (t *teller) put(token string, sides int) {
	if len(t.text) > 0 && t.sides&closeRight == 0 && sides&closeLeft == 0 {
		t.text = append(t.text, ' ')
	}
	t.text = append(t.text, token...)
	t.sides = sides
}

// tell tells a node where the grammar reads that level: what is less tight stands in brackets.
func (t *teller) tell(at, level int) {
	n := t.nodes[at]
	if signs[n.Kind].level >= level {
		t.bare(n)
		return
	}
	t.put("(", closeRight)
	t.bare(n)
	t.put(")", closeLeft)
}

// bare tells a node without brackets around it.
func (t *teller) bare(n api.ENode) {
	s := signs[n.Kind]
	switch s.shape {
	case literal:
		t.put(literalText(n), apart)
	case word:
		t.put(s.text, apart)
	case call:
		t.put(s.text, closeRight)
		t.put("(", closeRight)
		t.until(n.Kids[0], ")", closeLeft)
	case choice:
		t.put(s.text, apart)
		t.until(n.Kids[0], "then", apart)
		t.until(n.Kids[1], "else", apart)
		t.until(n.Kids[2], "end", apart)
	case loop:
		t.put(s.text, apart)
		t.put(n.Text, apart)
		t.put("in", apart)
		t.until(n.Kids[0], ":", closeLeft)
		t.until(n.Kids[1], "end", apart)
	case step:
		t.tell(n.Kids[0], s.level)
		t.put(s.text, closeBoth)
		if s.named {
			t.put(n.Text, apart)
		}
	case prefix:
		t.put(s.text, apart)
		t.tell(n.Kids[0], s.level)
	case pair:
		t.between(n, s.level+1)
	case row:
		t.between(n, s.level)
	}
}

// until tells a kid that needs no brackets, and the token behind it.
func (t *teller) until(kid int, token string, sides int) {
	t.tell(kid, orLevel)
	t.put(token, sides)
}

// between tells two kids, of which the grammar reads the first one at that level.
func (t *teller) between(n api.ENode, level int) {
	s := signs[n.Kind]
	t.tell(n.Kids[0], level)
	t.put(s.text, apart)
	t.tell(n.Kids[1], s.level+1)
}

// literalText answers a token that says all of a node. Of an int below 0 it is two, with no blank between.
func literalText(n api.ENode) string {
	switch n.Kind {
	case api.EInt:
		return names.Show(n.Int)
	case api.EText:
		return names.Quote(n.Text)
	}
	return n.Text
}
