package expr

import (
	"topiary/api"
	"topiary/lex"
)

// A wrong is thrown: the place of the first token with which no expression goes on.
type wrong int

// A reader reads an expression's tokens one by one.
type reader struct {
	tokens []api.Token
	at     int
	end    int // the length of the text
}

// whole reads all of the tokens.
func (r *reader) whole() *tree {
	t := r.or()
	if r.at < len(r.tokens) {
		r.refuse()
	}
	return t
}

func (r *reader) or() *tree   { return r.row(orLevel, r.and) }
func (r *reader) and() *tree  { return r.row(andLevel, r.not) }
func (r *reader) not() *tree  { return r.prefix(notLevel, r.cmp) }
func (r *reader) cmp() *tree  { return r.pair(cmpLevel, r.sum) }
func (r *reader) sum() *tree  { return r.row(sumLevel, r.prod) }
func (r *reader) prod() *tree { return r.row(prodLevel, r.post) }
func (r *reader) post() *tree { return r.steps(postLevel, r.prim) }

// row reads what stands in a row, and belongs together from the left.
func (r *reader) row(level int, below func() *tree) *tree {
	t := below()
	for {
		kind, ok := r.sign(level)
		if !ok {
			return t
		}
		t = newTree(kind, "", t, below())
	}
}

// pair reads two of the level below, or one.
func (r *reader) pair(level int, below func() *tree) *tree {
	t := below()
	if kind, ok := r.sign(level); ok {
		return newTree(kind, "", t, below())
	}
	return t
}

func (r *reader) prefix(level int, below func() *tree) *tree {
	if kind, ok := r.sign(level); ok {
		return newTree(kind, "", r.prefix(level, below))
	}
	return below()
}

func (r *reader) steps(level int, below func() *tree) *tree {
	t := below()
	for {
		kind, ok := r.sign(level)
		if !ok {
			return t
		}
		t = newTree(kind, r.nameOf(kind), t)
	}
}

func (r *reader) prim() *tree {
	if kind, ok := r.sign(primLevel); ok {
		// What stands behind a word that begins a prim, by its shape.
		rest := [...]func(kind int) *tree{word: r.word, call: r.call, choice: r.choice, loop: r.loop}
		return rest[signs[kind].shape](kind)
	}
	switch {
	case r.is("("):
		r.at++
		return r.until(")")
	case r.is("-"):
		r.at++
		return newInt(-r.take(lex.Int).Int)
	case r.has(lex.Int):
		return newInt(r.take(lex.Int).Int)
	case r.has(lex.Text):
		return newTree(api.EText, r.take(lex.Text).Text)
	}
	return newTree(api.EVar, r.take(lex.Name).Text)
}

func (r *reader) word(kind int) *tree { return newTree(kind, "") }

func (r *reader) call(kind int) *tree {
	r.must("(")
	return newTree(kind, "", r.until(")"))
}

func (r *reader) choice(kind int) *tree {
	asked := r.until("then")
	yes := r.until("else")
	return newTree(kind, "", asked, yes, r.until("end"))
}

func (r *reader) loop(kind int) *tree {
	name := r.nameOf(kind)
	r.must("in")
	list := r.until(":")
	return newTree(kind, name, list, r.until("end"))
}

// until reads an expression, and the mark or the word behind it.
func (r *reader) until(text string) *tree {
	t := r.or()
	r.must(text)
	return t
}

// must reads that mark or word.
func (r *reader) must(text string) {
	if !r.is(text) {
		r.refuse()
	}
	r.at++
}

// nameOf reads the name that stands with a Kind; of a Kind with none it is empty.
func (r *reader) nameOf(kind int) string {
	if !signs[kind].named {
		return ""
	}
	return r.take(lex.Name).Text
}

// take reads a token of that kind.
func (r *reader) take(kind int) api.Token {
	if !r.has(kind) {
		r.refuse()
	}
	r.at++
	return r.tokens[r.at-1]
}

// sign reads a mark or a word, if the next token is one that stands for a Kind at that level.
func (r *reader) sign(level int) (int, bool) {
	if !r.has(lex.Mark) && !r.has(lex.Word) {
		return 0, false
	}
	kind, ok := kindAt(level, r.tokens[r.at].Text)
	if ok {
		r.at++
	}
	return kind, ok
}

// is tells whether the next token is that mark or word.
func (r *reader) is(text string) bool {
	return (r.has(lex.Mark) || r.has(lex.Word)) && r.tokens[r.at].Text == text
}

// has tells whether there is a next token, and it is of that kind.
func (r *reader) has(kind int) bool {
	return r.at < len(r.tokens) && r.tokens[r.at].Kind == kind
}

// refuse throws the place of the next token, or of the text's end.
func (r *reader) refuse() {
	if r.at < len(r.tokens) {
		panic(wrong(r.tokens[r.at].At))
	}
	panic(wrong(r.end))
}
