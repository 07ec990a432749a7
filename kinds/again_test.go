package kinds_test

import (
	"math/rand/v2"
	"slices"
	"strings"

	"topiary/api"
)

// The chapter's words, written once more, and as slowly as one likes: its table as it stands there, a variable's node looked at from below, all wrong nodes gone through. So the tests hold the package against something else than itself.

const tableText = `
| EInt | | int |
| EText | | text |
| ETrue, EFalse | | bool |
| ESelf, ENone | | node |
| EVar | | node |
| EProp, EConcept | node | text |
| EKids, EAll | node | list |
| ERef, EParent | node | node |
| EIs | node | bool |
| EID | node | int |
| ESize | list | int |
| EFirst | list | node |
| EShow | int | text |
| ERead | text | int |
| EAdd | int int, text text | the same |
| ESub, EMul | int int | int |
| EEq, ENe | int int, text text, bool bool, node node | bool |
| ELt, ELe | int int, text text | bool |
| EAnd, EOr | bool bool | bool |
| ENot | bool | bool |
| EIf | bool int int, bool text text, bool bool bool, bool node node, bool list list | the same |
| EAny, EEvery | list bool | bool |
| EOnly | list bool | list |
| ESum | list int | int |
`

const kindNames = "EInt EText ETrue EFalse ESelf ENone EVar EProp EKids ERef EParent EIs EAll ESize EFirst EShow EConcept EID ERead EAdd ESub EMul EEq ENe ELt ELe EAnd EOr ENot EIf EAny EEvery EOnly ESum"

// A form is one of the ways in which a Kind's node may have a kind.
type form struct {
	kind int // the Kind
	kids []int
	made int
}

var forms = func() []form {
	var out []form
	for _, line := range strings.Split(strings.TrimSpace(tableText), "\n") {
		cells := strings.Split(line, "|")
		for _, name := range strings.Split(cells[1], ",") {
			for _, ways := range strings.Split(cells[2], ",") {
				f := form{kind: 1 + slices.Index(strings.Fields(kindNames), strings.TrimSpace(name))}
				for _, s := range strings.Fields(ways) {
					f.kids = append(f.kids, valueNamed(s))
				}
				if made := strings.TrimSpace(cells[3]); made == "the same" {
					f.made = f.kids[len(f.kids)-1]
				} else {
					f.made = valueNamed(made)
				}
				out = append(out, f)
			}
		}
	}
	return out
}()

// valueNamed is the kind of values with that name.
func valueNamed(s string) int {
	return 1 + slices.Index([]string{"int", "text", "bool", "node", "list"}, s)
}

// formsOf are the forms of a Kind.
func formsOf(kind int) []form {
	var out []form
	for _, f := range forms {
		if f.kind == kind {
			out = append(out, f)
		}
	}
	return out
}

// kidsOf is how many kids a Kind has.
func kidsOf(kind int) int { return len(formsOf(kind)[0].kids) }

func isNamed(kind int) bool {
	return slices.Contains([]int{api.EVar, api.EProp, api.EKids, api.ERef, api.EIs, api.EAll}, kind) || isLoop(kind)
}

func isLoop(kind int) bool {
	return slices.Contains([]int{api.EAny, api.EEvery, api.EOnly, api.ESum}, kind)
}

// isBound tells whether the variable of an EVar is bound at it.
func isBound(l []api.ENode, at int) bool {
	name := l[at].Text
	for up := at; up > 0; {
		over := slices.IndexFunc(l, func(n api.ENode) bool { return slices.Contains(n.Kids, up) })
		if n := l[over]; isLoop(n.Kind) && n.Text == name && n.Kids[1] == up {
			return true
		}
		up = over
	}
	return false
}

// kindAt is a node's kind, or 0: it is wrong.
func kindAt(l []api.ENode, at int) int {
	n := l[at]
	if n.Kind == api.EVar && !isBound(l, at) {
		return 0
	}
	var kids []int
	for _, kid := range n.Kids {
		kids = append(kids, kindAt(l, kid))
	}
	for _, f := range forms {
		if f.kind == n.Kind && slices.Equal(f.kids, kids) {
			return f.made
		}
	}
	return 0
}

// behind are the numbers of a node and of all below it, each behind its kids.
func behind(l []api.ENode, at int) []int {
	var out []int
	for _, kid := range l[at].Kids {
		out = append(out, behind(l, kid)...)
	}
	return append(out, at)
}

// told is what Each is to answer of an expression that is right.
func told(l []api.ENode) ([]int, int, api.Errno) {
	kinds := make([]int, len(l))
	for at := range l {
		kinds[at] = kindAt(l, at)
	}
	for _, at := range behind(l, 0) {
		without := slices.ContainsFunc(l[at].Kids, func(kid int) bool { return kinds[kid] == 0 })
		switch {
		case kinds[at] != 0 || without:
		case l[at].Kind == api.EVar:
			return nil, at, api.ErrVar
		default:
			return nil, at, api.ErrKind
		}
	}
	return kinds, 0, api.OK
}

// freeOf is what Free is to answer of an expression that is right.
func freeOf(l []api.ENode) []string {
	found := map[string]bool{}
	for at, n := range l {
		if n.Kind == api.EVar && !isBound(l, at) {
			found[n.Text] = true
		}
	}
	var out []string
	for s := range found {
		out = append(out, s)
	}
	slices.SortFunc(out, func(a, b string) int { return slices.Compare([]byte(a), []byte(b)) })
	return out
}

// A tree is an expression as one thing.
type tree struct {
	kind int
	text string
	num  int64
	kids []tree
}

// expr is the tree as a list.
func (x tree) expr() api.Expr {
	l := []api.ENode{{Kind: x.kind, Text: x.text, Int: x.num}}
	for _, kid := range x.kids {
		below := kid.expr().Nodes
		l[0].Kids = append(l[0].Kids, len(l))
		for i := range below {
			for k := range below[i].Kids {
				below[i].Kids[k] += len(l)
			}
		}
		l = append(l, below...)
	}
	return api.Expr{Nodes: l}
}

func (x tree) size() int {
	n := 1
	for _, kid := range x.kids {
		n += kid.size()
	}
	return n
}

func (x tree) depth() int {
	n := 0
	for _, kid := range x.kids {
		n = max(n, kid.depth())
	}
	return n + 1
}

// tooGreat tells whether the tree passes a limit.
func (x tree) tooGreat() bool { return x.size() > 256 || x.depth() > 32 }

// treeAt is the tree that a node of a list is, with all below it.
func treeAt(l []api.ENode, at int) tree {
	x := tree{kind: l[at].Kind, text: l[at].Text, num: l[at].Int}
	for _, kid := range l[at].Kids {
		x.kids = append(x.kids, treeAt(l, kid))
	}
	return x
}

// instead is the tree with another one in the place of the node with that number.
func (x tree) instead(at int, other tree) tree {
	if at == 0 {
		return other
	}
	x.kids = slices.Clone(x.kids)
	first := 1
	for i, kid := range x.kids {
		size := kid.size()
		if at < first+size {
			x.kids[i] = kid.instead(at-first, other)
			return x
		}
		first += size
	}
	panic("no such node")
}

// renamed is the tree with another name in the place of a variable's.
func (x tree) renamed(from, to string) tree {
	if (x.kind == api.EVar || isLoop(x.kind)) && x.text == from {
		x.text = to
	}
	x.kids = slices.Clone(x.kids)
	for i, kid := range x.kids {
		x.kids[i] = kid.renamed(from, to)
	}
	return x
}

// variables are the names of the tree's variables, free or bound, each once.
func (x tree) variables() []string {
	var out []string
	if x.kind == api.EVar || isLoop(x.kind) {
		out = append(out, x.text)
	}
	for _, kid := range x.kids {
		out = append(out, kid.variables()...)
	}
	slices.Sort(out)
	return slices.Compact(out)
}

// A dice throws the same on every run.
type dice struct{ *rand.Rand }

func newDice(seed uint64) dice { return dice{rand.New(rand.NewPCG(seed, 9))} }

func pick[E any](d dice, l ...E) E { return l[d.IntN(len(l))] }

// leaf is the tree of a Kind, without its kids.
func (d dice) leaf(kind int) tree {
	x := tree{kind: kind}
	switch {
	case kind == api.EInt:
		x.num = int64(d.IntN(7) - 3)
	case kind == api.EText:
		x.text = pick(d, "", "x", "a b", "\x00\xff")
	case kind == api.EVar || isLoop(kind):
		x.text = pick(d, "x", "y", "z", "item")
	case isNamed(kind):
		// Names that variables have too, where they are none.
		x.text = pick(d, "x", "y", "item", "name", "A")
	}
	return x
}

// any is a tree of at most so many nodes, and so deep, whatever the kinds of its kids.
func (d dice) any(size, depth int) tree {
	var fit []int
	for kind := api.EInt; kind <= api.ESum; kind++ {
		if n := kidsOf(kind); n < size && (n > 0) == (size > 1 && depth > 1) {
			fit = append(fit, kind)
		}
	}
	if len(fit) == 0 || d.IntN(10) == 0 {
		fit = []int{api.EInt, api.EText, api.ETrue, api.EFalse, api.ESelf, api.ENone, api.EVar}
	}
	x := d.leaf(pick(d, fit...))
	least := make([]int, kidsOf(x.kind))
	for i := range least {
		least[i] = 1
	}
	for _, share := range d.shares(size-1, least) {
		x.kids = append(x.kids, d.any(share, depth-1))
	}
	return x
}

// shares are how many nodes each kid may have, of so many, each at least what it needs.
func (d dice) shares(nodes int, least []int) []int {
	out := slices.Clone(least)
	if len(out) == 0 {
		return nil
	}
	for _, n := range least {
		nodes -= n
	}
	for _, i := range d.Perm(len(out)) {
		n := d.IntN(nodes + 1)
		out[i] += n
		nodes -= n
	}
	// What is left goes to one of them, so that the tree is as great as it may be.
	out[d.IntN(len(out))] += nodes
	return out
}

// leastOf is how many nodes a tree of that kind of values has at least, and how deep it is at least: a list is of a node.
func leastOf(value int) int {
	if value == api.VList {
		return 2
	}
	return 1
}

// of is a tree of that kind of values, of at most so many nodes, and so deep, in which nothing is free but those variables.
func (d dice) of(value, size, depth int, bound []string) tree {
	fit := map[int][]form{}
	var leaves, others []int
	for _, f := range forms {
		if f.made != value || !f.fits(size, depth) || f.kind == api.EVar && len(bound) == 0 {
			continue
		}
		if len(f.kids) == 0 {
			leaves = append(leaves, f.kind)
		} else {
			others = append(others, f.kind)
		}
		fit[f.kind] = append(fit[f.kind], f)
	}
	if len(others) == 0 || len(leaves) > 0 && d.IntN(6+size) == 0 {
		others = leaves
	}
	others = slices.Compact(others)
	kind := pick(d, others...)
	// Loops, and what they bind, are what most hangs on.
	loops := slices.DeleteFunc(others, func(kind int) bool { return !isLoop(kind) })
	if len(loops) > 0 && d.IntN(4) == 0 {
		kind = pick(d, loops...)
	}
	if len(fit[api.EVar]) > 0 && d.IntN(2) == 0 {
		kind = api.EVar
	}
	f := pick(d, fit[kind]...)
	x := d.leaf(kind)
	if kind == api.EVar {
		x.text = pick(d, bound...)
	}
	var least []int
	for _, kid := range f.kids {
		least = append(least, leastOf(kid))
	}
	for i, share := range d.shares(size-1, least) {
		inside := bound
		if i == 1 && isLoop(kind) {
			inside = append(slices.Clone(bound), x.text)
		}
		x.kids = append(x.kids, d.of(f.kids[i], share, depth-1, inside))
	}
	return x
}

// fits tells whether a tree of the form may have at most so many nodes, and be so deep.
func (f form) fits(size, depth int) bool {
	need, deep := 1, 1
	for _, kid := range f.kids {
		need += leastOf(kid)
		deep = max(deep, 1+leastOf(kid))
	}
	return need <= size && deep <= depth
}
