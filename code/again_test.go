package code_test

import (
	"fmt"
	"math/rand/v2"
	"regexp"
	"slices"
	"strconv"
	"strings"

	"topiary/api"
)

// The chapter's words, written once more, and as slowly as one likes: its tables as they stand there, lines by their shapes, code with marks that are put in last, all that leads anywhere kept in one row. So the tests hold the package against something else than itself.

const opsText = `
| step 1 | count |
| int 2 | int |
| text 3 | text |
| true 4, false 5, self 6, none 7 | |
| load 8 | number |
| free 9 | |
| prop 10, kids 11, ref 12, is 14, all 15 | name |
| parent 13, size 16, first 17, show 18, concept 19, id 20, read 21, not 29, truth 32 | |
| add 22, sub 23, mul 24, eq 25, ne 26, lt 27, le 28 | |
| and 30, or 31, unless 33, jump 34, next 39, take 40 | place |
| any 35, every 36, only 37, sum 38 | |
`

// A row is an instruction's word, its Op, and what it has.
type row struct {
	word string
	op   int
	has  string
}

var rows = func() []row {
	var out []row
	for _, line := range strings.Split(strings.TrimSpace(opsText), "\n") {
		cells := strings.Split(line, "|")
		for _, cell := range strings.Split(cells[1], ",") {
			f := strings.Fields(cell)
			op, _ := strconv.Atoi(f[1])
			out = append(out, row{f[0], op, strings.TrimSpace(cells[2])})
		}
	}
	return out
}()

// rowOf is the row of an Op; one without a word, if there is none.
func rowOf(op int) row {
	for _, r := range rows {
		if r.op == op {
			return r
		}
	}
	return row{}
}

// opNamed is the Op with that word; 0, if there is none.
func opNamed(word string) int {
	for _, r := range rows {
		if r.word == word {
			return r.op
		}
	}
	return 0
}

var nameShape = regexp.MustCompile(`^[A-Za-z][A-Za-z0-9_]{0,31}$`)

// isTold tells whether an instruction is as the table tells it.
func isTold(n api.Ins) bool {
	rest := n
	rest.Op = 0
	switch rowOf(n.Op).has {
	case "count":
		rest.Arg = 0
		return n.Arg > 0 && rest == api.Ins{}
	case "number", "place":
		rest.Arg = 0
		return n.Arg > -1 && rest == api.Ins{}
	case "int":
		rest.Int = 0
	case "text":
		rest.Text = ""
		return len(n.Text) < 4097 && rest == api.Ins{}
	case "name":
		rest.Text = ""
		return nameShape.MatchString(n.Text) && rest == api.Ins{}
	}
	return rowOf(n.Op).word != "" && rest == api.Ins{}
}

// A base is a loop: its base, and the place of its next.
type base struct{ height, next int }

// A lead is that a place leads to another one, with a height, and loops.
type lead struct {
	from, to, height int
	loops            []base
}

func (a lead) unlike(b lead) bool { return a.height != b.height || !slices.Equal(a.loops, b.loops) }

// A fault is the place that is told, and which of the rules is broken there.
type fault struct {
	at   int
	rule string
}

// faultOf is the first fault of some instructions; its rule is empty, if they are right.
func faultOf(l []api.Ins) fault {
	if len(l) > 1024 {
		return fault{0, "full"}
	}
	leads := []lead{{from: -1}}
	for at := range l {
		here := slices.IndexFunc(leads, func(x lead) bool { return x.to == at })
		switch {
		case here < 0:
			return fault{at, "unled"}
		case !isTold(l[at]):
			return fault{at, "told"}
		}
		further, rule := leadsOf(l, at, leads[here].height, leads[here].loops)
		if rule != "" {
			return fault{at, rule}
		}
		for _, x := range further {
			leads = append(leads, x)
			for _, y := range leads {
				if x.to == y.to && x.height != y.height {
					return fault{at, "height"}
				}
				if x.to == y.to && x.unlike(y) {
					return fault{at, "loops"}
				}
			}
		}
	}
	for _, x := range leads {
		if x.to == len(l) {
			if x.unlike(lead{height: 1}) {
				return fault{len(l), "end"}
			}
			return fault{}
		}
	}
	return fault{len(l), "end"}
}

// leadsOf is where an instruction leads; or which of its rules is broken.
func leadsOf(l []api.Ins, at, height int, loops []base) ([]lead, string) {
	n := l[at]
	word := rowOf(n.Op).word
	is := func(words string) bool { return slices.Contains(strings.Fields(words), word) }
	to := func(place, height int) lead { return lead{at, place, height, loops} }
	last := base{0, -1}
	if len(loops) > 0 {
		last = loops[len(loops)-1]
	}
	takes := 1
	if is("step int text true false self none load free jump next") {
		takes = 0
	} else if is("add sub mul eq ne lt le") {
		takes = 2
	}
	switch {
	case height-last.height < takes:
		return nil, "takes"
	case is("and or unless jump next") && (n.Arg <= at || n.Arg > len(l)):
		return nil, "place"
	case is("load") && n.Arg >= len(loops):
		return nil, "load"
	case is("and or"):
		return []lead{to(n.Arg, height), to(at+1, height-1)}, ""
	case is("unless"):
		return []lead{to(n.Arg, height-1), to(at+1, height-1)}, ""
	case is("jump"):
		return []lead{to(n.Arg, height)}, ""
	case is("any every only sum"):
		if at+1 == len(l) || rowOf(l[at+1].Op).word != "next" {
			return nil, "begin"
		}
		return []lead{{at, at + 1, height - 1, append(slices.Clone(loops), base{height - 1, at + 1})}}, ""
	case is("next"):
		if last.next != at || last.height != height {
			return nil, "next"
		}
		return []lead{to(at+1, height), {at, n.Arg, height + 1, loops[:len(loops)-1]}}, ""
	case is("take"):
		if last.next != n.Arg || last.height+1 != height {
			return nil, "take"
		}
		return nil, ""
	case is("int text true false self none load free"):
		return []lead{to(at+1, height+1)}, ""
	case takes == 2:
		return []lead{to(at+1, height-1)}, ""
	}
	return []lead{to(at+1, height)}, ""
}

// rightOf is what Right is to answer.
func rightOf(l []api.Ins) (int, api.Errno) {
	switch f := faultOf(l); f.rule {
	case "":
		return 0, api.OK
	case "full":
		return 0, api.ErrFull
	default:
		return f.at, api.ErrCode
	}
}

const formShape = `(?:[ !#-\[\]-~]|\\["\\n]|\\x(?:0[0-9b-f]|1[0-9a-f]|7f|[89a-f][0-9a-f]))`

var (
	wordShape  = regexp.MustCompile(`^[a-z]+`)
	countShape = regexp.MustCompile(`^ [1-9][0-9]*$`)
	placeShape = regexp.MustCompile(`^ (?:0|[1-9][0-9]*)$`)
	intShape   = regexp.MustCompile(`^ (?:0|-?[1-9][0-9]*)$`)
	aText      = regexp.MustCompile(`^ "(` + formShape + `*)"$`)
	aForm      = regexp.MustCompile(formShape)
)

// insOf is the instruction of a line without its byte 10, if it is one's.
func insOf(line string) (api.Ins, bool) {
	r := rowOf(opNamed(wordShape.FindString(line)))
	rest := strings.TrimPrefix(line, r.word)
	n := api.Ins{Op: r.op}
	var err error
	switch r.has {
	case "count", "number", "place":
		shape := placeShape
		if r.has == "count" {
			shape = countShape
		}
		if !shape.MatchString(rest) {
			return api.Ins{}, false
		}
		n.Arg, err = strconv.Atoi(rest[1:])
	case "int":
		if !intShape.MatchString(rest) {
			return api.Ins{}, false
		}
		n.Int, err = strconv.ParseInt(rest[1:], 10, 64)
	case "text":
		f := aText.FindStringSubmatch(rest)
		if f == nil {
			return api.Ins{}, false
		}
		n.Text = aForm.ReplaceAllStringFunc(f[1], byteOf)
		return n, len(n.Text) <= 4096
	case "name":
		n.Text = strings.TrimPrefix(rest, " ")
		return n, nameShape.MatchString(n.Text) && rest == " "+n.Text
	default:
		return n, r.word != "" && rest == ""
	}
	return n, err == nil
}

// byteOf is the byte whose form that is.
func byteOf(form string) string {
	switch {
	case len(form) == 1:
		return form
	case form == `\n`:
		return "\n"
	case form[1] == 'x':
		b, _ := strconv.ParseUint(form[2:], 16, 8)
		return string([]byte{byte(b)})
	}
	return form[1:]
}

// lineOf is the line of an instruction that is as told, without its byte 10.
func lineOf(n api.Ins) string {
	r := rowOf(n.Op)
	switch r.has {
	case "count", "number", "place":
		return r.word + " " + strconv.Itoa(n.Arg)
	case "int":
		return r.word + " " + strconv.FormatInt(n.Int, 10)
	case "text":
		return r.word + " " + quoted(n.Text)
	case "name":
		return r.word + " " + n.Text
	}
	return r.word
}

func quoted(s string) string {
	b := new(strings.Builder)
	for i := range len(s) {
		switch c := s[i]; {
		case c == '"' || c == '\\':
			b.WriteString(`\` + string(rune(c)))
		case c == 10:
			b.WriteString(`\n`)
		case 32 <= c && c <= 126:
			b.WriteByte(c)
		default:
			fmt.Fprintf(b, `\x%02x`, c)
		}
	}
	return `"` + b.String() + `"`
}

// textOf is the text of some instructions that are as told, however long.
func textOf(l []api.Ins) string {
	b := new(strings.Builder)
	for _, n := range l {
		b.WriteString(lineOf(n) + "\n")
	}
	return b.String()
}

// parsed is what Parse is to answer of a text.
func parsed(text string) ([]api.Ins, int, api.Errno) {
	if len(text) > 1<<20 {
		return nil, 0, api.ErrLong
	}
	lines := strings.Split(text, "\n")
	var l []api.Ins
	for i, line := range lines[:len(lines)-1] {
		n, ok := insOf(line)
		if !ok {
			return nil, i, api.ErrCode
		}
		l = append(l, n)
	}
	if lines[len(lines)-1] != "" {
		return nil, len(l), api.ErrCode
	}
	if at, err := rightOf(l); err != api.OK {
		return nil, at, err
	}
	return l, 0, api.OK
}

// A tree is an expression as one thing.
type tree struct {
	kind int
	text string
	num  int64
	kids []tree
}

func of(kind int, kids ...tree) tree { return tree{kind: kind, kids: kids} }

// expr is the tree as a list.
func (x tree) expr() api.Expr {
	l := []api.ENode{{Kind: x.kind, Text: x.text, Int: x.num}}
	for _, kid := range x.kids {
		below := kid.expr().Nodes
		l[0].Kids = append(l[0].Kids, len(l))
		for i := range below {
			for k := range below[i].Kids {
				below[i].Kids[k] += len(l)
			}
		}
		l = append(l, below...)
	}
	return api.Expr{Nodes: l}
}

// treeOf is the tree that a node of a list is, with all below it.
func treeOf(l []api.ENode, at int) tree {
	x := tree{kind: l[at].Kind, text: l[at].Text, num: l[at].Int}
	for _, kid := range l[at].Kids {
		x.kids = append(x.kids, treeOf(l, kid))
	}
	return x
}

func (x tree) size() int {
	n := 1
	for _, kid := range x.kids {
		n += kid.size()
	}
	return n
}

func (x tree) depth() int {
	n := 0
	for _, kid := range x.kids {
		n = max(n, kid.depth())
	}
	return n + 1
}

// tooGreat tells whether the tree passes a limit.
func (x tree) tooGreat() bool { return x.size() > 256 || x.depth() > 32 }

// loops is how many loops the tree has.
func (x tree) loops() int {
	n := 0
	if isLoop(x.kind) {
		n = 1
	}
	for _, kid := range x.kids {
		n += kid.loops()
	}
	return n
}

// variables are the names of the tree's variables, free or bound, each once.
func (x tree) variables() []string {
	var out []string
	if x.kind == api.EVar || isLoop(x.kind) {
		out = append(out, x.text)
	}
	for _, kid := range x.kids {
		out = append(out, kid.variables()...)
	}
	slices.Sort(out)
	return slices.Compact(out)
}

// renamed is the tree with another name in the place of a variable's.
func (x tree) renamed(from, to string) tree {
	if (x.kind == api.EVar || isLoop(x.kind)) && x.text == from {
		x.text = to
	}
	x.kids = slices.Clone(x.kids)
	for i, kid := range x.kids {
		x.kids[i] = kid.renamed(from, to)
	}
	return x
}

// plainText are the Kinds whose code is that of their kids, and an instruction: its word, and which field it has of the node's.
const plainText = "EInt int Int, EText text Text, ETrue true, EFalse false, ESelf self, ENone none, EVar, EProp prop Text, EKids kids Text, ERef ref Text, EParent parent, EIs is Text, EAll all Text, ESize size, EFirst first, EShow show, EConcept concept, EID id, ERead read, EAdd add, ESub sub, EMul mul, EEq eq, ENe ne, ELt lt, ELe le, EAnd and, EOr or, ENot not, EIf, EAny any, EEvery every, EOnly only, ESum sum"

// plainOf is what plainText tells of a Kind.
func plainOf(kind int) (word, field string) {
	f := strings.Fields(strings.Split(plainText, ",")[kind-1])
	f = append(f, "", "")
	return f[1], f[2]
}

// A marker writes code with marks: a line `7:` marks the place of what stands behind it, `jump 7:` has that place.
type marker struct {
	lines []string
	marks int
}

func (k *marker) add(lines ...string) { k.lines = append(k.lines, lines...) }

func (k *marker) mark() string {
	k.marks++
	return strconv.Itoa(k.marks) + ":"
}

// node writes the code of a node with so many steps, within the bodies of the loops of those variables, the innermost one's first.
func (k *marker) node(x tree, steps int, bodies []string) {
	if len(x.kids) == 0 {
		k.add("step " + strconv.Itoa(steps))
		k.leaf(x, bodies)
		return
	}
	word, field := plainOf(x.kind)
	k.node(x.kids[0], steps+1, bodies)
	switch {
	case word == "and" || word == "or":
		end := k.mark()
		k.add(word + " " + end)
		k.node(x.kids[1], 1, bodies)
		k.add("truth", end)
	case word == "":
		no, end := k.mark(), k.mark()
		k.add("unless " + no)
		k.node(x.kids[1], 1, bodies)
		k.add("jump "+end, no)
		k.node(x.kids[2], 1, bodies)
		k.add(end)
	case isLoop(x.kind):
		next, end := k.mark(), k.mark()
		k.add(word, next, "next "+end)
		k.node(x.kids[1], 1, append([]string{x.text}, bodies...))
		k.add("take "+next, end)
	default:
		for _, kid := range x.kids[1:] {
			k.node(kid, 1, bodies)
		}
		if field == "Text" {
			word += " " + x.text
		}
		k.add(word)
	}
}

func (k *marker) leaf(x tree, bodies []string) {
	word, field := plainOf(x.kind)
	switch {
	case x.kind == api.EVar:
		if i := slices.Index(bodies, x.text); i >= 0 {
			k.add("load " + strconv.Itoa(i))
		} else {
			k.add("free")
		}
	case field == "Int":
		k.add(word + " " + strconv.FormatInt(x.num, 10))
	case field == "Text":
		k.add(word + " " + quoted(x.text))
	default:
		k.add(word)
	}
}

// codeText is the text of the code of a tree.
func codeText(x tree) string {
	var k marker
	k.node(x, 1, nil)
	places := map[string]string{}
	var lines []string
	for _, line := range k.lines {
		if isMark(line) {
			places[line] = strconv.Itoa(len(lines))
		} else {
			lines = append(lines, line)
		}
	}
	text := ""
	for _, line := range lines {
		// A text in quotes may have what looks like a mark in it.
		if word, mark, _ := strings.Cut(line, " "); isMark(mark) && word != "text" {
			line = word + " " + places[mark]
		}
		text += line + "\n"
	}
	return text
}

var markShape = regexp.MustCompile(`^[0-9]+:$`)

func isMark(s string) bool { return markShape.MatchString(s) }

func isLoop(kind int) bool {
	return slices.Contains([]int{api.EAny, api.EEvery, api.EOnly, api.ESum}, kind)
}

func isNamed(kind int) bool {
	return slices.Contains([]int{api.EVar, api.EProp, api.EKids, api.ERef, api.EIs, api.EAll}, kind) || isLoop(kind)
}

// kidsOf is how many kids a Kind has.
func kidsOf(kind int) int {
	switch {
	case kind <= api.EVar:
		return 0
	case kind <= api.ERead || kind == api.ENot:
		return 1
	case kind == api.EIf:
		return 3
	}
	return 2
}

// A dice throws the same on every run.
type dice struct{ *rand.Rand }

func newDice(seed uint64) dice { return dice{rand.New(rand.NewPCG(seed, 11))} }

func pick[E any](d dice, l ...E) E { return l[d.IntN(len(l))] }

// words is a text of a few words, of bytes of any kind.
func (d dice) words() string {
	return pick(d, "", "x", "a b", "\x00\xff", "\"", "\\", "\n", "3:", " ", "step 1\n", "é", strings.Repeat("v", d.IntN(40)))
}

func (d dice) name() string {
	return pick(d, "x", "y", "item", "name", "A", "a_9", strings.Repeat("n", 32))
}

func (d dice) num() int64 {
	return pick(d, 0, 1, -1, 7, -12, 1<<63-1, -1<<63+1, d.Int64(), -d.Int64())
}

// leaf is the tree of a Kind, without its kids.
func (d dice) leaf(kind int) tree {
	x := tree{kind: kind}
	switch {
	case kind == api.EInt:
		x.num = d.num()
	case kind == api.EText:
		x.text = d.words()
	case kind == api.EVar || isLoop(kind):
		x.text = pick(d, "x", "y", "z", "item")
	case isNamed(kind):
		x.text = d.name()
	}
	return x
}

// tree is a tree of at most so many nodes, and so deep.
func (d dice) tree(size, depth int) tree {
	var fit []int
	for kind := api.EProp; kind <= api.ESum; kind++ {
		if kidsOf(kind) < size && depth > 1 {
			fit = append(fit, kind)
			if isLoop(kind) || kind == api.EIf || kind == api.EAnd || kind == api.EOr {
				fit = append(fit, kind, kind)
			}
		}
	}
	if len(fit) == 0 || d.IntN(12) == 0 {
		fit = []int{api.EInt, api.EText, api.ETrue, api.EFalse, api.ESelf, api.ENone, api.EVar, api.EVar, api.EVar}
	}
	x := d.leaf(pick(d, fit...))
	shares := d.shares(size-1, kidsOf(x.kind))
	// What a loop binds hangs on its body.
	if isLoop(x.kind) && d.IntN(3) > 0 {
		shares = []int{1, size - 2}
	}
	for _, share := range shares {
		x.kids = append(x.kids, d.tree(share, depth-1))
	}
	return x
}

// shares are how many nodes each of some kids may have, of so many, at least one each.
func (d dice) shares(nodes, kids int) []int {
	out := make([]int, kids)
	for i := range out {
		out[i] = 1
	}
	for k := nodes - kids; k > 0 && kids > 0; k-- {
		out[d.IntN(kids)]++
	}
	return out
}

// straight is a tree without variables and loops, of at most so many nodes, and so deep.
func (d dice) straight(size, depth int) tree {
	return d.tree(size, depth).straightened()
}

// straightened is the tree with another Kind in the place of those that are variables and loops.
func (x tree) straightened() tree {
	switch {
	case x.kind == api.EVar:
		return tree{kind: api.ESelf}
	case isLoop(x.kind):
		x.kind, x.text = api.EAnd, ""
	}
	x.kids = slices.Clone(x.kids)
	for i, kid := range x.kids {
		x.kids[i] = kid.straightened()
	}
	return x
}

// ins is an instruction thrown by the dice, of code of so many.
func (d dice) ins(places int) api.Ins {
	r := pick(d, rows...)
	n := api.Ins{Op: r.op}
	switch r.has {
	case "count":
		n.Arg = 1 + d.IntN(9)
	case "number":
		n.Arg = d.IntN(3)
	case "place":
		n.Arg = d.IntN(places + 2)
	case "int":
		n.Int = d.num()
	case "text":
		n.Text = d.words()
	case "name":
		n.Text = d.name()
	}
	return n
}

// hasPlace tells whether an instruction has a place.
func hasPlace(n api.Ins) bool { return rowOf(n.Op).has == "place" }

// with is the instructions with some more at a place, and all that lead behind it lead to where they led.
func with(l []api.Ins, at int, more ...api.Ins) []api.Ins {
	out := slices.Clone(l)
	for i, n := range out {
		if hasPlace(n) && n.Arg > at {
			out[i].Arg += len(more)
		}
	}
	return slices.Insert(out, at, more...)
}

// changed is the instructions with one thing changed; they may be right still.
func (d dice) changed(l []api.Ins) []api.Ins {
	l = slices.Clone(l)
	if len(l) == 0 {
		return append(l, d.ins(1))
	}
	at := d.IntN(len(l))
	switch d.IntN(9) {
	case 0:
		l[at].Arg += pick(d, -2, -1, 1, 2)
	case 1:
		l[at].Op = d.ins(0).Op
	case 2:
		l[at] = d.ins(len(l))
	case 3:
		l = slices.Delete(l, at, at+1)
	case 4:
		l = slices.Insert(l, at, l[d.IntN(len(l))])
	case 5:
		l = with(l, at, d.ins(len(l)))
	case 6:
		l = with(l, at, d.ins(len(l)), d.ins(len(l)))
	case 7:
		other := d.IntN(len(l))
		l[at], l[other] = l[other], l[at]
	case 8:
		if places := d.places(l); len(places) > 0 {
			l[pick(d, places...)].Arg = d.IntN(len(l) + 2)
		}
	}
	return l
}

// places are those at which something stands that has a place.
func (d dice) places(l []api.Ins) []int {
	var out []int
	for at, n := range l {
		if hasPlace(n) {
			out = append(out, at)
		}
	}
	return out
}

// grown is code that is right, and hardly any expression's: an expression's, with so many changes after which it was right still.
func (d dice) grown(l []api.Ins, changes int) []api.Ins {
	for range changes {
		if next := d.changed(l); faultOf(next).rule == "" {
			l = next
		}
	}
	return l
}
