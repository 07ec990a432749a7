package expr_test

import (
	"math/rand/v2"
	"regexp"
	"slices"
	"strconv"
	"strings"

	"topiary/api"
	"topiary/lex"
)

// The chapter's words, written once more: its grammar gone through in all ways there are, its table as rows, brackets found by leaving them away. So the tests hold the package against something else than itself.

const grammarText = `
    or    = and { "or" and }
    and   = not { "and" not }
    not   = "not" not | cmp
    cmp   = sum [ ( "==" | "!=" | "<" | "<=" ) sum ]
    sum   = prod { ( "+" | "-" ) prod }
    prod  = post { "*" post }
    post  = prim { "." name | "#" name | "->" name | "^" | "?" name | "!!" name }
    prim  = int | "-" int | text | "true" | "false" | "self" | "none" | name | "(" or ")"
          | ( "size" | "first" | "text" | "concept" | "id" | "int" ) "(" or ")"
          | "if" or "then" or "else" or "end"
          | ( "any" | "every" | "only" | "sum" ) name "in" or ":" or "end"
`

// rows are the chapter's table.
var rows = []struct {
	kind  int
	sign  string
	kids  int
	named bool
}{
	{1, "", 0, false}, {2, "", 0, false}, {3, "true", 0, false}, {4, "false", 0, false}, {5, "self", 0, false}, {6, "none", 0, false}, {7, "", 0, true},
	{8, ".", 1, true}, {9, "#", 1, true}, {10, "->", 1, true}, {12, "?", 1, true}, {13, "!!", 1, true}, {11, "^", 1, false},
	{14, "size", 1, false}, {15, "first", 1, false}, {16, "text", 1, false}, {17, "concept", 1, false}, {18, "id", 1, false}, {19, "int", 1, false},
	{20, "+", 2, false}, {21, "-", 2, false}, {22, "*", 2, false}, {23, "==", 2, false}, {24, "!=", 2, false}, {25, "<", 2, false}, {26, "<=", 2, false}, {27, "and", 2, false}, {28, "or", 2, false},
	{29, "not", 1, false}, {30, "if", 3, false}, {31, "any", 2, true}, {32, "every", 2, true}, {33, "only", 2, true}, {34, "sum", 2, true},
}

// A tree is an expression as one thing.
type tree struct {
	kind int
	text string
	num  int64
	kids []tree
}

// expr is the tree as a list.
func (x tree) expr() api.Expr {
	n := api.ENode{Kind: x.kind, Text: x.text, Int: x.num}
	l := []api.ENode{n}
	for _, kid := range x.kids {
		below := kid.expr().Nodes
		l[0].Kids = append(l[0].Kids, len(l))
		for i := range below {
			for k := range below[i].Kids {
				below[i].Kids[k] += len(l)
			}
		}
		l = append(l, below...)
	}
	return api.Expr{Nodes: l}
}

func (x tree) size() int {
	n := 1
	for _, kid := range x.kids {
		n += kid.size()
	}
	return n
}

func (x tree) depth() int {
	n := 0
	for _, kid := range x.kids {
		n = max(n, kid.depth())
	}
	return n + 1
}

// tooGreat tells whether the tree passes a limit.
func (x tree) tooGreat() bool { return x.size() > 256 || x.depth() > 32 }

// parts are the tree and all below it, in the order in which they are met.
func (x tree) parts() []tree {
	l := []tree{x}
	for _, kid := range x.kids {
		l = append(l, kid.parts()...)
	}
	return l
}

// same holds lists of nodes against each other; nil lists and empty ones are the same.
func same(a, b api.Expr) bool {
	return slices.EqualFunc(a.Nodes, b.Nodes, func(a, b api.ENode) bool {
		return a.Kind == b.Kind && a.Text == b.Text && a.Int == b.Int && slices.Equal(a.Kids, b.Kids)
	})
}

// A shape is a piece of the grammar.
type shape struct {
	op    string // "token" a mark or a word, "kind" a kind of token, "rule", "all" of the parts in order, "one" of them, "some" times the parts, "may" lack
	text  string
	parts []shape
}

var grammar = func() map[string]shape {
	out := map[string]shape{}
	name := ""
	fields := map[string][]string{}
	for _, f := range strings.Split(grammarText, "\n") {
		words := strings.Fields(f)
		if len(words) > 1 && words[1] == "=" {
			name, words = words[0], words[2:]
		}
		fields[name] = append(fields[name], words...)
	}
	for name, words := range fields {
		out[name], _ = shapeOf(words)
	}
	return out
}()

// shapeOf reads a shape up to what closes it, and answers what stands behind.
func shapeOf(words []string) (shape, []string) {
	one := shape{op: "one", parts: []shape{{op: "all"}}}
	add := func(s shape) {
		last := &one.parts[len(one.parts)-1]
		last.parts = append(last.parts, s)
	}
	for len(words) > 0 {
		w := words[0]
		words = words[1:]
		switch w {
		case "}", "]", ")":
			return one, words
		case "|":
			one.parts = append(one.parts, shape{op: "all"})
		case "{", "[", "(":
			var s shape
			s, words = shapeOf(words)
			add(shape{op: map[string]string{"{": "some", "[": "may", "(": "all"}[w], parts: []shape{s}})
		case "int", "text", "name":
			add(shape{op: "kind", text: w})
		default:
			if text, ok := strings.CutPrefix(w, `"`); ok {
				add(shape{op: "token", text: strings.TrimSuffix(text, `"`)})
			} else {
				add(shape{op: "rule", text: w})
			}
		}
	}
	return one, nil
}

// A twig is a token, or what a rule read.
type twig struct {
	token api.Token
	rule  string
	below []twig
}

// A way is one in which a shape goes over tokens, up to an end.
type way struct {
	end   int
	twigs []twig
}

// A walker goes over tokens in all ways.
type walker struct {
	tokens []api.Token
	far    int // the furthest token that was asked for
	known  map[string][][]way
}

func (w *walker) rule(name string, at int) []way {
	if w.known[name] == nil {
		w.known[name] = make([][]way, len(w.tokens)+1)
	}
	if l := w.known[name][at]; l != nil {
		return l
	}
	l := make([]way, 0, 1)
	for _, x := range w.ways(grammar[name], at) {
		l = append(l, way{x.end, []twig{{rule: name, below: x.twigs}}})
	}
	w.known[name][at] = l
	return l
}

func (w *walker) ways(s shape, at int) []way {
	switch s.op {
	case "rule":
		return w.rule(s.text, at)
	case "token", "kind":
		w.far = max(w.far, at)
		if at == len(w.tokens) || !s.takes(w.tokens[at]) {
			return nil
		}
		return []way{{at + 1, []twig{{token: w.tokens[at]}}}}
	case "one":
		var l []way
		for _, p := range s.parts {
			l = append(l, w.ways(p, at)...)
		}
		return l
	case "all":
		l := []way{{end: at}}
		for _, p := range s.parts {
			l = w.behind(l, p)
		}
		return l
	case "may":
		return append([]way{{end: at}}, w.ways(s.parts[0], at)...)
	case "some":
		l := []way{{end: at}}
		for more := l; len(more) > 0; {
			more = w.behind(more, s.parts[0])
			l = append(l, more...)
		}
		return l
	}
	panic("no such shape: " + s.op)
}

// behind are the ways, each with one of the shape behind it.
func (w *walker) behind(l []way, s shape) []way {
	var out []way
	for _, a := range l {
		for _, b := range w.ways(s, a.end) {
			out = append(out, way{b.end, slices.Concat(a.twigs, b.twigs)})
		}
	}
	return out
}

func (s shape) takes(k api.Token) bool {
	if s.op == "kind" {
		return k.Kind == map[string]int{"int": 1, "text": 2, "name": 3}[s.text]
	}
	return (k.Kind == 4 || k.Kind == 5) && k.Text == s.text
}

// read is the tree of the tokens; or the number of the first wrong one.
func read(tokens []api.Token) (tree, int, bool) {
	w := walker{tokens: tokens, known: map[string][][]way{}}
	var found []tree
	for _, x := range w.rule("or", 0) {
		w.far = max(w.far, x.end)
		if x.end == len(tokens) {
			found = append(found, x.twigs[0].tree())
		}
	}
	switch len(found) {
	case 0:
		return tree{}, w.far, false
	case 1:
		return found[0], 0, true
	}
	panic("two expressions of one text")
}

// tree is what a rule read.
func (x twig) tree() tree {
	l := x.below
	if l[0].rule != "" {
		t := l[0].tree()
		for l = l[1:]; len(l) > 0; {
			n := 1
			text := ""
			kids := []tree{t}
			switch {
			case len(l) > 1 && l[1].rule != "":
				n, kids = 2, append(kids, l[1].tree())
			case len(l) > 1 && l[1].token.Kind == 3:
				n, text = 2, l[1].token.Text
			}
			t, l = tree{kind: kindOf(l[0].token.Text, len(kids)), text: text, kids: kids}, l[n:]
		}
		return t
	}
	return treeOfTokens(l)
}

// treeOfTokens is the tree of what begins with a token.
func treeOfTokens(l []twig) tree {
	first := l[0].token
	switch {
	case first.Kind == 1:
		return tree{kind: 1, num: first.Int}
	case first.Kind == 2:
		return tree{kind: 2, text: first.Text}
	case first.Kind == 3:
		return tree{kind: 7, text: first.Text}
	case first.Text == "-":
		return tree{kind: 1, num: -l[1].token.Int}
	case first.Text == "(":
		return l[1].tree()
	}
	var t tree
	for _, x := range l[1:] {
		if x.rule != "" {
			t.kids = append(t.kids, x.tree())
		} else if x.token.Kind == 3 {
			t.text = x.token.Text
		}
	}
	t.kind = kindOf(first.Text, len(t.kids))
	return t
}

func kindOf(sign string, kids int) int {
	for _, r := range rows {
		if r.sign == sign && r.kids == kids {
			return r.kind
		}
	}
	panic("no Kind: " + sign)
}

// A piece is a token of an expression's own text.
type piece struct {
	text  string
	minus bool // a `-` that belongs to an int
	calls bool // a word ahead of its `(`
}

func pieces(texts ...string) []piece {
	var l []piece
	for _, s := range texts {
		l = append(l, piece{text: s})
	}
	return l
}

// ownPieces are the tokens of the tree's own text.
func ownPieces(x tree) []piece {
	inside := make([][]piece, len(x.kids))
	for i, kid := range x.kids {
		inside[i] = ownPieces(kid)
	}
	around := func(l []piece) []piece { return slices.Concat(pieces("("), l, pieces(")")) }
	kids := make([][]piece, len(x.kids))
	for i := range x.kids {
		tried := make([][]piece, len(x.kids))
		for k := range tried {
			tried[k] = around(inside[k])
		}
		tried[i] = inside[i]
		kids[i] = around(inside[i])
		if readsAs(tokensOf(assembled(x, tried)), x) {
			kids[i] = inside[i]
		}
	}
	return assembled(x, kids)
}

// assembled are the tokens of the tree, with those of its kids.
func assembled(x tree, kids [][]piece) []piece {
	i := slices.IndexFunc(rows, func(r struct {
		kind  int
		sign  string
		kids  int
		named bool
	}) bool {
		return r.kind == x.kind
	})
	sign := pieces(rows[i].sign)
	switch {
	case x.kind == 1 && x.num < 0:
		return []piece{{text: "-", minus: true}, {text: strconv.FormatUint(uint64(-x.num), 10)}}
	case x.kind == 1:
		return pieces(strconv.FormatInt(x.num, 10))
	case x.kind == 2:
		return pieces(quoted(x.text))
	case x.kind == 7:
		return pieces(x.text)
	case len(x.kids) == 0:
		return sign
	case x.kind == 11:
		return append(slices.Clone(kids[0]), sign...)
	case x.kind >= 8 && x.kind <= 13:
		return slices.Concat(kids[0], sign, pieces(x.text))
	case x.kind >= 14 && x.kind <= 19:
		sign[0].calls = true
		return slices.Concat(sign, pieces("("), kids[0], pieces(")"))
	case x.kind == 29:
		return slices.Concat(sign, kids[0])
	case x.kind == 30:
		return slices.Concat(sign, kids[0], pieces("then"), kids[1], pieces("else"), kids[2], pieces("end"))
	case x.kind >= 31:
		return slices.Concat(sign, pieces(x.text, "in"), kids[0], pieces(":"), kids[1], pieces("end"))
	}
	return slices.Concat(kids[0], sign, kids[1])
}

// tokensOf are the tokens that the pieces are, however long they are.
func tokensOf(l []piece) []api.Token {
	var out []api.Token
	for _, p := range l {
		// Of Go's forms of a text in quotes the chapter has just those that mean the same.
		text, quotes := strconv.Unquote(p.text)
		n, digits := strconv.ParseInt(p.text, 10, 64)
		switch {
		case quotes == nil:
			out = append(out, api.Token{Kind: 2, Text: text})
		case digits == nil:
			out = append(out, api.Token{Kind: 1, Int: n})
		case wordShape.MatchString(p.text):
			out = append(out, api.Token{Kind: 4, Text: p.text})
		case nameShape.MatchString(p.text):
			out = append(out, api.Token{Kind: 3, Text: p.text})
		default:
			out = append(out, api.Token{Kind: 5, Text: p.text})
		}
	}
	return out
}

func readsAs(tokens []api.Token, x tree) bool {
	y, _, ok := read(tokens)
	return ok && same(x.expr(), y.expr())
}

// ownText is the tree's own text, however long.
func ownText(x tree) string { return glued(ownPieces(x)) }

// glued is the text of an expression's tokens.
func glued(l []piece) string {
	s := ""
	for i, p := range l {
		if i > 0 && blankBetween(l[i-1], p) {
			s += " "
		}
		s += p.text
	}
	return s
}

func blankBetween(a, b piece) bool {
	around := []string{".", "#", "->", "^", "?", "!!"}
	switch {
	case a.text == "(" || a.minus:
		return false
	case b.text == ")" || b.text == ":":
		return false
	case slices.Contains(around, a.text) || slices.Contains(around, b.text):
		return false
	}
	return !(a.calls && b.text == "(")
}

// inBrackets is a text of the tree with each kid in brackets, whether they are needed or not.
func inBrackets(x tree) string {
	kids := make([][]piece, len(x.kids))
	for i, kid := range x.kids {
		kids[i] = pieces("(", inBrackets(kid), ")")
	}
	return glued(assembled(x, kids))
}

func quoted(s string) string {
	const digits = "0123456789abcdef"
	q := []byte{'"'}
	for i := range len(s) {
		switch b := s[i]; {
		case b == '"' || b == '\\':
			q = append(q, '\\', b)
		case b == 10:
			q = append(q, `\n`...)
		case 32 <= b && b <= 126:
			q = append(q, b)
		default:
			q = append(q, '\\', 'x', digits[b/16], digits[b%16])
		}
	}
	return string(append(q, '"'))
}

var (
	nameShape = regexp.MustCompile(`^[A-Za-z][A-Za-z0-9_]{0,31}$`)
	wordShape = regexp.MustCompile(`^(?:and|any|concept|else|end|every|false|first|id|if|in|int|none|not|only|or|self|size|sum|text|then|true)$`)
)

// rightError is what Right is to answer.
func rightError(l []api.ENode) api.Errno {
	if len(l) > 256 {
		return api.ErrFull
	}
	if len(l) == 0 || slices.ContainsFunc(l, func(n api.ENode) bool { return !mayBe(n) }) {
		return api.ErrExpr
	}
	for i := 1; i < len(l); i++ {
		in := 0
		for _, n := range l {
			for _, kid := range n.Kids {
				if kid == i {
					in++
				}
			}
		}
		if in != 1 {
			return api.ErrExpr
		}
	}
	met, deepest := metFrom(l)
	for i, at := range met {
		if i != at {
			return api.ErrExpr
		}
	}
	if len(met) != len(l) {
		return api.ErrExpr
	}
	if deepest > 32 {
		return api.ErrFull
	}
	return api.OK
}

// metFrom are the numbers of the nodes as they are met, beginning with the first one; and the depth.
func metFrom(l []api.ENode) (met []int, deepest int) {
	var meet func(at, depth int)
	meet = func(at, depth int) {
		met = append(met, at)
		deepest = max(deepest, depth)
		// What is met in a ring is met for ever.
		if at < 0 || at >= len(l) || len(met) > len(l) {
			return
		}
		for _, kid := range l[at].Kids {
			meet(kid, depth+1)
		}
	}
	meet(0, 1)
	return met, deepest
}

// mayBe tells whether a node is as the table says.
func mayBe(n api.ENode) bool {
	for _, r := range rows {
		if r.kind != n.Kind {
			continue
		}
		switch {
		case len(n.Kids) != r.kids:
			return false
		case r.kind == 1:
			return n.Text == "" && n.Int >= -1<<63+1
		case n.Int != 0:
			return false
		case r.kind == 2:
			return len(n.Text) <= 4096
		case r.named:
			return nameShape.MatchString(n.Text) && !wordShape.MatchString(n.Text)
		}
		return n.Text == ""
	}
	return false
}

// A dice throws the same on every run.
type dice struct{ *rand.Rand }

func newDice(seed uint64) dice { return dice{rand.New(rand.NewPCG(seed, 8))} }

func pick[E any](d dice, l ...E) E { return l[d.IntN(len(l))] }

func (d dice) name() string {
	return pick(d, "a", "b", "c", "x", "item", "nota", "i", "Num", "Or", "e_9", strings.Repeat("n", 32))
}

// tree is one of at most so many nodes, and so deep.
func (d dice) tree(size, depth int) tree {
	var fit []int
	for i, r := range rows {
		if r.kids > 0 == (size > 1 && depth > 1) && r.kids < size {
			fit = append(fit, i)
		}
	}
	if len(fit) == 0 || d.IntN(12) == 0 {
		fit = []int{0, 1, 2, 3, 4, 5, 6}
	}
	r := rows[pick(d, fit...)]
	t := tree{kind: r.kind}
	switch {
	case r.named:
		t.text = d.name()
	case r.kind == 1:
		t.num = pick(d, 0, 1, -1, 5, -12, 1<<63-1, -1<<63+1, d.Int64()>>d.IntN(63), -(d.Int64() >> d.IntN(63)))
	case r.kind == 2:
		t.text = pick(d, "", "a", "\n", `"`, `\`, "end", ")", "a b", "\x00\xff", "self.a")
	}
	left := size - 1
	for i := range r.kids {
		// Each kid still to come has one at least.
		most := left - (r.kids - i - 1)
		share := most
		if i < r.kids-1 {
			share = 1 + d.IntN(most)
		}
		kid := d.tree(share, depth-1)
		t.kids = append(t.kids, kid)
		left -= kid.size()
	}
	return t
}

// blanks are some, or none where none need to stand.
func (d dice) blanks(need bool) string {
	s := ""
	for range d.IntN(3) {
		s += pick(d, " ", "\n")
	}
	if need && s == "" {
		return pick(d, " ", "\n")
	}
	return s
}

// spaced is a text of the tokens' texts, with blanks of any number wherever they may stand.
func (d dice) spaced(texts []string) string {
	s := d.blanks(false)
	for i, w := range texts {
		if i > 0 {
			// Without a blank they must be the same two tokens.
			bare, _, e := lex.Scan(texts[i-1] + w)
			s += d.blanks(e != api.OK || len(bare) != 2 || bare[1].At != len(texts[i-1]))
		}
		s += w
	}
	return s + d.blanks(false)
}

var tokenTexts = []string{
	"a", "b", "x", "0", "1", "12", `""`, `"a"`, "and", "any", "concept", "else", "end", "every", "false", "first", "id", "if", "in", "int", "none", "not", "only", "or", "self", "size", "sum", "text", "then", "true",
	".", "#", "->", "^", "?", "!!", "(", ")", "+", "-", "*", "==", "!=", "<", "<=", ":",
}

// changed are the tokens with one more, one less, another one, two turned, or cut.
func (d dice) changed(l []string) []string {
	l = slices.Clone(l)
	if len(l) == 0 {
		return []string{pick(d, tokenTexts...)}
	}
	i := d.IntN(len(l))
	switch d.IntN(6) {
	case 0:
		return slices.Insert(l, i, pick(d, tokenTexts...))
	case 1:
		return slices.Delete(l, i, i+1)
	case 2:
		l[i] = pick(d, tokenTexts...)
	case 3:
		k := d.IntN(len(l))
		l[i], l[k] = l[k], l[i]
	case 4:
		return l[:i]
	case 5:
		return l[i:]
	}
	return l
}
