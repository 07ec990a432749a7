package denote_test

import (
	"math/big"
	"math/rand/v2"
	"slices"
	"strconv"
	"strings"

	"topiary/api"
)

// The chapter's words, written once more, and as slowly as one likes: without fuel, errors handed back from node to node, loops as a list, sums of numbers of any size. So the tests hold the package against something else than itself.

// A come is what an expression comes to with any fuel: a value or an error, and by how many steps.
type come struct {
	v     api.Value
	err   api.Errno
	steps int
}

// with is what the expression comes to with so much fuel.
func (c come) with(fuel int) come {
	switch {
	case fuel < c.steps:
		return come{err: api.ErrFuel}
	case c.err != api.OK:
		return come{err: c.err}
	}
	return c
}

// A slow is some languages, a right model, a node of it, or 0; an expression that is right, and how many steps were taken.
type slow struct {
	ls    []api.Language
	m     api.Model
	self  int
	expr  []api.ENode
	steps int
}

// A bound is a loop's variable, and the node at which the loop is.
type bound struct {
	name string
	node int
}

// come is what the expression comes to. Beyond any fuel nothing more is asked.
func (s slow) come() come {
	v, err := s.at(0, nil)
	return come{v, err, s.steps}
}

func number(n int64) api.Value { return api.Value{Kind: api.VInt, Int: n} }
func words(t string) api.Value { return api.Value{Kind: api.VText, Text: t} }
func truth(b bool) api.Value   { return api.Value{Kind: api.VBool, Bool: b} }
func node(id int) api.Value    { return api.Value{Kind: api.VNode, Node: id} }
func list(l []int) api.Value   { return api.Value{Kind: api.VList, List: l} }

// at is what a node comes to.
func (s *slow) at(at int, around []bound) (api.Value, api.Errno) {
	if s.step() != api.OK {
		return api.Value{}, api.ErrFuel
	}
	n := s.expr[at]
	switch {
	case isLoop(n.Kind):
		return s.loop(n, around)
	case n.Kind == api.EAnd || n.Kind == api.EOr || n.Kind == api.EIf:
		return s.choice(n, around)
	}
	var kids []api.Value
	for _, kid := range n.Kids {
		v, err := s.at(kid, around)
		if err != api.OK {
			return api.Value{}, err
		}
		kids = append(kids, v)
	}
	switch len(kids) {
	case 1:
		return s.one(n, kids[0])
	case 2:
		return two(n.Kind, kids[0], kids[1])
	}
	return s.leaf(n, around)
}

func (s *slow) step() api.Errno {
	s.steps++
	if s.steps > api.MaxFuel {
		return api.ErrFuel
	}
	return api.OK
}

func (s *slow) leaf(n api.ENode, around []bound) (api.Value, api.Errno) {
	switch n.Kind {
	case api.EInt:
		return number(n.Int), api.OK
	case api.EText:
		return words(n.Text), api.OK
	case api.ETrue:
		return truth(true), api.OK
	case api.EFalse:
		return truth(false), api.OK
	case api.ESelf:
		return node(s.self), api.OK
	case api.ENone:
		return node(0), api.OK
	}
	for _, b := range slices.Backward(around) {
		if b.name == n.Text {
			return node(b.node), api.OK
		}
	}
	return api.Value{}, api.ErrVar
}

// choice is what EAnd, EOr and EIf come to.
func (s *slow) choice(n api.ENode, around []bound) (api.Value, api.Errno) {
	v, err := s.at(n.Kids[0], around)
	switch {
	case err != api.OK:
		return api.Value{}, err
	case v.Kind != api.VBool:
		return api.Value{}, api.ErrKind
	case n.Kind == api.EIf && v.Bool:
		return s.at(n.Kids[1], around)
	case n.Kind == api.EIf:
		return s.at(n.Kids[2], around)
	case n.Kind == api.EAnd && !v.Bool || n.Kind == api.EOr && v.Bool:
		return v, api.OK
	}
	v, err = s.at(n.Kids[1], around)
	if err == api.OK && v.Kind != api.VBool {
		return api.Value{}, api.ErrKind
	}
	return v, err
}

func (s *slow) loop(n api.ENode, around []bound) (api.Value, api.Errno) {
	l, err := s.at(n.Kids[0], around)
	if err != api.OK {
		return api.Value{}, err
	}
	if l.Kind != api.VList {
		return api.Value{}, api.ErrKind
	}
	wanted := api.VBool
	if n.Kind == api.ESum {
		wanted = api.VInt
	}
	var only []int
	var summands []int64
	for _, id := range l.List {
		if s.step() != api.OK {
			return api.Value{}, api.ErrFuel
		}
		v, err := s.at(n.Kids[1], append(slices.Clone(around), bound{n.Text, id}))
		switch {
		case err != api.OK:
			return api.Value{}, err
		case v.Kind != wanted:
			return api.Value{}, api.ErrKind
		case n.Kind == api.EAny && v.Bool, n.Kind == api.EEvery && !v.Bool:
			return v, api.OK
		}
		if v.Bool {
			only = append(only, id)
		}
		summands = append(summands, v.Int)
		if _, ok := sumOf(summands); !ok {
			return api.Value{}, api.ErrOver
		}
	}
	switch n.Kind {
	case api.EAny:
		return truth(false), api.OK
	case api.EEvery:
		return truth(true), api.OK
	case api.EOnly:
		return list(only), api.OK
	}
	sum, _ := sumOf(summands)
	return number(sum), api.OK
}

func sumOf(l []int64) (int64, bool) {
	sum := new(big.Int)
	for _, n := range l {
		sum.Add(sum, big.NewInt(n))
	}
	return sum.Int64(), sum.IsInt64()
}

// one is what a node comes to whose only kid came to v.
func (s *slow) one(n api.ENode, v api.Value) (api.Value, api.Errno) {
	wanted := map[int]int{api.ESize: api.VList, api.EFirst: api.VList, api.EShow: api.VInt, api.ERead: api.VText, api.ENot: api.VBool}[n.Kind]
	if wanted == 0 {
		wanted = api.VNode
	}
	if v.Kind != wanted {
		return api.Value{}, api.ErrKind
	}
	switch n.Kind {
	case api.ESize:
		return number(int64(len(v.List))), api.OK
	case api.EFirst:
		return node(append(slices.Clone(v.List), 0)[0]), api.OK
	case api.EShow:
		return words(big.NewInt(v.Int).String()), api.OK
	case api.ERead:
		b, ok := new(big.Int).SetString(v.Text, 10)
		if !ok || !b.IsInt64() || b.String() != v.Text {
			return api.Value{}, api.ErrTexts
		}
		return number(b.Int64()), api.OK
	case api.ENot:
		return truth(!v.Bool), api.OK
	}
	over, ok := s.node(v.Node)
	if !ok {
		return api.Value{}, api.ErrNone
	}
	return s.ofNode(n, over)
}

// ofNode is what a node comes to whose kid came to that node of the model.
func (s *slow) ofNode(n api.ENode, over api.Node) (api.Value, api.Errno) {
	switch n.Kind {
	case api.EProp:
		for _, p := range over.Props {
			if p.Name == n.Text {
				return words(p.Value), api.OK
			}
		}
		return words(""), api.OK
	case api.EKids:
		var l []int
		for _, id := range over.Kids {
			if kid, _ := s.node(id); kid.Role == n.Text {
				l = append(l, id)
			}
		}
		return list(l), api.OK
	case api.ERef:
		for _, r := range over.Refs {
			if _, ok := s.node(r.Target); ok && r.Role == n.Text {
				return node(r.Target), api.OK
			}
		}
		return node(0), api.OK
	case api.EParent:
		return node(over.Parent), api.OK
	case api.EIs:
		return truth(s.isBelow(over.Concept, n.Text)), api.OK
	case api.EConcept:
		return words(over.Concept), api.OK
	case api.EID:
		return number(int64(over.ID)), api.OK
	}
	var l []int
	for _, id := range s.under(over.ID) {
		if s.step() != api.OK {
			return api.Value{}, api.ErrFuel
		}
		if kid, _ := s.node(id); s.isBelow(kid.Concept, n.Text) {
			l = append(l, id)
		}
	}
	return list(l), api.OK
}

func (s *slow) node(id int) (api.Node, bool) {
	for _, n := range s.m.Nodes {
		if n.ID == id {
			return n, true
		}
	}
	return api.Node{}, false
}

// under are all nodes below one, in document order.
func (s *slow) under(id int) []int {
	var out []int
	over, _ := s.node(id)
	for _, kid := range over.Kids {
		out = append(append(out, kid), s.under(kid)...)
	}
	return out
}

// isBelow tells whether a concept is that one, or below it.
func (s *slow) isBelow(a, b string) bool {
	if a == b {
		return true
	}
	for _, l := range s.ls {
		for _, c := range l.Concepts {
			if c.Name == a && c.Super != "" {
				return s.isBelow(c.Super, b)
			}
		}
	}
	return false
}

// two is what a node of that Kind comes to whose kids came to a and b.
func two(kind int, a, b api.Value) (api.Value, api.Errno) {
	ints := a.Kind == api.VInt && b.Kind == api.VInt
	texts := a.Kind == api.VText && b.Kind == api.VText
	switch kind {
	case api.EEq, api.ENe:
		if a.Kind != b.Kind || a.Kind == api.VList {
			return api.Value{}, api.ErrKind
		}
		return truth(sameValue(a, b) == (kind == api.EEq)), api.OK
	case api.ELt, api.ELe:
		if !ints && !texts {
			return api.Value{}, api.ErrKind
		}
		less := ints && a.Int < b.Int || slices.Compare([]byte(a.Text), []byte(b.Text)) < 0
		return truth(less || kind == api.ELe && sameValue(a, b)), api.OK
	case api.EAdd:
		if texts && len(a.Text)+len(b.Text) > 4096 {
			return api.Value{}, api.ErrLong
		}
		if texts {
			return words(strings.Join([]string{a.Text, b.Text}, "")), api.OK
		}
	}
	if !ints {
		return api.Value{}, api.ErrKind
	}
	x, y, z := big.NewInt(a.Int), big.NewInt(b.Int), new(big.Int)
	switch kind {
	case api.EAdd:
		z.Add(x, y)
	case api.ESub:
		z.Sub(x, y)
	case api.EMul:
		z.Mul(x, y)
	}
	if !z.IsInt64() {
		return api.Value{}, api.ErrOver
	}
	return number(z.Int64()), api.OK
}

// sameValue tells whether two values are the same in all fields.
func sameValue(a, b api.Value) bool {
	return a.Kind == b.Kind && a.Int == b.Int && a.Text == b.Text && a.Bool == b.Bool && a.Node == b.Node && slices.Equal(a.List, b.List)
}

func isLoop(kind int) bool {
	return slices.Contains([]int{api.EAny, api.EEvery, api.EOnly, api.ESum}, kind)
}

// show tells what an expression came to: `12, 22 steps`; an error has no steps.
func (c come) show() string {
	s := "error " + strconv.Itoa(int(c.err))
	switch c.v.Kind {
	case api.VInt:
		s = strconv.FormatInt(c.v.Int, 10)
	case api.VText:
		s = strconv.Quote(c.v.Text)
	case api.VBool:
		s = strconv.FormatBool(c.v.Bool)
	case api.VNode:
		s = "@" + strconv.Itoa(c.v.Node)
	case api.VList:
		var l []string
		for _, id := range c.v.List {
			l = append(l, strconv.Itoa(id))
		}
		s = "[" + strings.Join(l, " ") + "]"
	}
	return s + ", " + strconv.Itoa(c.steps) + " steps"
}

// A tree is an expression as one thing.
type tree struct {
	kind int
	text string
	num  int64
	kids []tree
}

// expr is the tree as a list.
func (x tree) expr() api.Expr {
	l := []api.ENode{{Kind: x.kind, Text: x.text, Int: x.num}}
	for _, kid := range x.kids {
		below := kid.expr().Nodes
		l[0].Kids = append(l[0].Kids, len(l))
		for i := range below {
			for k := range below[i].Kids {
				below[i].Kids[k] += len(l)
			}
		}
		l = append(l, below...)
	}
	return api.Expr{Nodes: l}
}

func (x tree) size() int {
	n := 1
	for _, kid := range x.kids {
		n += kid.size()
	}
	return n
}

func (x tree) depth() int {
	n := 0
	for _, kid := range x.kids {
		n = max(n, kid.depth())
	}
	return n + 1
}

// tooGreat tells whether the tree passes a limit.
func (x tree) tooGreat() bool { return x.size() > 256 || x.depth() > 32 }

// instead is the tree with another one in the place of the node with that number.
func (x tree) instead(at int, other tree) tree {
	if at == 0 {
		return other
	}
	x.kids = slices.Clone(x.kids)
	first := 1
	for i, kid := range x.kids {
		size := kid.size()
		if at < first+size {
			x.kids[i] = kid.instead(at-first, other)
			return x
		}
		first += size
	}
	panic("no such node")
}

// A form is one of the ways in which a Kind's node may have a kind.
type form struct {
	kind int // the Kind
	made int
	kids []int
}

// forms are those of chapter 9's table: expressions that are thrown keep to it for the most part, as else hardly one would come to a value.
var forms = []form{
	{api.EInt, api.VInt, nil}, {api.EText, api.VText, nil}, {api.ETrue, api.VBool, nil}, {api.EFalse, api.VBool, nil},
	{api.ESelf, api.VNode, nil}, {api.ENone, api.VNode, nil}, {api.EVar, api.VNode, nil},
	{api.EProp, api.VText, []int{api.VNode}}, {api.EConcept, api.VText, []int{api.VNode}},
	{api.EKids, api.VList, []int{api.VNode}}, {api.EAll, api.VList, []int{api.VNode}},
	{api.ERef, api.VNode, []int{api.VNode}}, {api.EParent, api.VNode, []int{api.VNode}},
	{api.EIs, api.VBool, []int{api.VNode}}, {api.EID, api.VInt, []int{api.VNode}},
	{api.ESize, api.VInt, []int{api.VList}}, {api.EFirst, api.VNode, []int{api.VList}},
	{api.EShow, api.VText, []int{api.VInt}}, {api.ERead, api.VInt, []int{api.VText}},
	{api.EAdd, api.VInt, []int{api.VInt, api.VInt}}, {api.EAdd, api.VText, []int{api.VText, api.VText}},
	{api.ESub, api.VInt, []int{api.VInt, api.VInt}}, {api.EMul, api.VInt, []int{api.VInt, api.VInt}},
	{api.EEq, api.VBool, []int{api.VInt, api.VInt}}, {api.EEq, api.VBool, []int{api.VText, api.VText}},
	{api.EEq, api.VBool, []int{api.VBool, api.VBool}}, {api.EEq, api.VBool, []int{api.VNode, api.VNode}},
	{api.ENe, api.VBool, []int{api.VInt, api.VInt}}, {api.ENe, api.VBool, []int{api.VText, api.VText}},
	{api.ENe, api.VBool, []int{api.VBool, api.VBool}}, {api.ENe, api.VBool, []int{api.VNode, api.VNode}},
	{api.ELt, api.VBool, []int{api.VInt, api.VInt}}, {api.ELt, api.VBool, []int{api.VText, api.VText}},
	{api.ELe, api.VBool, []int{api.VInt, api.VInt}}, {api.ELe, api.VBool, []int{api.VText, api.VText}},
	{api.EAnd, api.VBool, []int{api.VBool, api.VBool}}, {api.EOr, api.VBool, []int{api.VBool, api.VBool}}, {api.ENot, api.VBool, []int{api.VBool}},
	{api.EIf, api.VInt, []int{api.VBool, api.VInt, api.VInt}}, {api.EIf, api.VText, []int{api.VBool, api.VText, api.VText}},
	{api.EIf, api.VBool, []int{api.VBool, api.VBool, api.VBool}}, {api.EIf, api.VNode, []int{api.VBool, api.VNode, api.VNode}},
	{api.EIf, api.VList, []int{api.VBool, api.VList, api.VList}},
	{api.EAny, api.VBool, []int{api.VList, api.VBool}}, {api.EEvery, api.VBool, []int{api.VList, api.VBool}},
	{api.EOnly, api.VList, []int{api.VList, api.VBool}}, {api.ESum, api.VInt, []int{api.VList, api.VInt}},
}

// A dice throws the same on every run.
type dice struct{ *rand.Rand }

func newDice(seed uint64) dice { return dice{rand.New(rand.NewPCG(seed, 10))} }

func pick[E any](d dice, l ...E) E { return l[d.IntN(len(l))] }

// leaf is the tree of a Kind, without its kids; its names are mostly such as the thrown models have.
func (d dice) leaf(kind int) tree {
	x := tree{kind: kind}
	switch kind {
	case api.EInt:
		x.num = pick(d, 0, 1, 2, 3, 5, -1, -7, 1<<32, 1<<62, -1<<62, 1<<63-1, -1<<63+1, int64(d.IntN(20)))
	case api.EText:
		x.text = pick(d, "", "x", "5", "-7", "9223372036854775807", "05", "a\x00", "a\xff", strings.Repeat("t", 2048), strings.Repeat("t", 4096))
	case api.EVar, api.EAny, api.EEvery, api.EOnly, api.ESum:
		x.text = pick(d, "x", "y", "item")
	case api.EProp:
		x.text = pick(d, "v", "v", "name", "w")
	case api.EKids:
		x.text = pick(d, "item", "item", "item", "sub", "x")
	case api.ERef:
		x.text = pick(d, "to", "to", "up")
	case api.EIs, api.EAll:
		x.text = pick(d, "Item", "Item", "Item", "Num", "Sum", "List", "Other")
	}
	return x
}

// of is a tree of that kind of values, of about so many nodes, and at most so deep (lists a little deeper), in which nothing is free but those variables.
func (d dice) of(value, size, depth int, vars []string) tree {
	var fit []form
	for _, f := range forms {
		leaf := len(f.kids) == 0 || value == api.VList
		if f.made == value && (f.kind != api.EVar || len(vars) > 0) && (leaf || size > 1 && depth > 1) {
			fit = append(fit, f)
		}
	}
	if value == api.VList && (size <= 2 || depth <= 2) {
		fit = slices.DeleteFunc(fit, func(f form) bool { return f.kind != api.EKids && f.kind != api.EAll })
	} else if size > 3 && depth > 2 && d.IntN(8) > 0 {
		fit = slices.DeleteFunc(fit, func(f form) bool { return len(f.kids) == 0 })
	}
	f := pick(d, fit...)
	// What a loop binds is what most hangs on; and where there is no node, all comes to the same error.
	switch {
	case value == api.VNode && len(vars) > 0 && d.IntN(3) > 0:
		f = form{api.EVar, api.VNode, nil}
	case f.kind == api.ENone || value == api.VNode && d.IntN(2) == 0:
		f = form{pick(d, api.ESelf, api.ESelf, api.ESelf, api.ESelf, api.ENone), api.VNode, nil}
	}
	x := d.leaf(f.kind)
	if f.kind == api.EVar {
		x.text = pick(d, vars...)
	}
	for i, kid := range f.kids {
		inside := vars
		if i == 1 && isLoop(f.kind) {
			inside = append(slices.Clone(vars), x.text)
		}
		x.kids = append(x.kids, d.of(kid, (size-1)/len(f.kids)+d.IntN(2), depth-1, inside))
	}
	return x
}

// any is a tree of about so many nodes, and at most so deep, whatever the kinds of its kids.
func (d dice) any(size, depth int) tree {
	f := pick(d, forms...)
	for (len(f.kids) > 0) != (size > 1 && depth > 1) {
		f = pick(d, forms...)
	}
	x := d.leaf(f.kind)
	for range f.kids {
		x.kids = append(x.kids, d.any((size-1)/len(f.kids), depth-1))
	}
	return x
}

// changed is the tree with a few of its nodes instead of which others stand.
func (d dice) changed(x tree) tree {
	for range 1 + d.IntN(3) {
		at := d.IntN(x.size())
		if d.IntN(2) == 0 {
			x = x.instead(at, d.any(1+d.IntN(5), 3))
		} else {
			x = x.instead(at, d.of(1+d.IntN(5), 1+d.IntN(4), 3, []string{"x", "y"}))
		}
	}
	return x
}

// languages are those of the thrown models; nobody knows Other.
func languages() []api.Language {
	return []api.Language{
		{Name: "a", Version: 1, Concepts: []api.Concept{{Name: "Item"}, {Name: "Num", Super: "Item"}, {Name: "Sum", Super: "Item"}, {Name: "List"}}},
		{Name: "b", Version: 1, Concepts: []api.Concept{{Name: "Neg", Super: "Sum"}}},
	}
}

// model is a right model of about so many nodes, some of which went again.
func (d dice) model(size int) api.Model {
	m := api.Model{Next: size + 1}
	for id := 1; id <= size; id++ {
		n := api.Node{ID: id, Concept: pick(d, "Num", "Num", "Sum", "Neg", "List", "Other", "Item", "?Kept")}
		if len(m.Nodes) > 0 && d.IntN(10) > 0 {
			n.Parent = pick(d, m.Nodes...).ID
			n.Role = pick(d, "item", "item", "item", "sub", "?kept")
		}
		for _, name := range []string{"name", "v", "w"} {
			if d.IntN(3) > 0 {
				value := pick(d, "", "5", "5", "7", "-3", "x", "9223372036854775807", "-9223372036854775808", strings.Repeat("p", 2049))
				n.Props = append(n.Props, api.Prop{Name: name, Value: value})
			}
		}
		for _, role := range []string{"to", "up"} {
			if d.IntN(5) > 0 {
				n.Refs = append(n.Refs, api.Ref{Role: role, Target: 1 + d.IntN(size)})
			}
		}
		// A number that is left out is that of a node that went, to which references may still be.
		if d.IntN(8) > 0 {
			m.Nodes = append(m.Nodes, n)
		}
	}
	for i, n := range m.Nodes {
		for _, k := range d.Perm(len(m.Nodes)) {
			if m.Nodes[k].Parent == n.ID {
				m.Nodes[i].Kids = append(m.Nodes[i].Kids, m.Nodes[k].ID)
			}
		}
	}
	return m
}

// nodeOf is a node of the model, mostly one with kids, or 0.
func (d dice) nodeOf(m api.Model) int {
	over := slices.DeleteFunc(slices.Clone(m.Nodes), func(n api.Node) bool { return len(n.Kids) == 0 })
	switch {
	case len(m.Nodes) == 0 || d.IntN(20) == 0:
		return 0
	case len(over) > 0 && d.IntN(4) > 0:
		return pick(d, over...).ID
	}
	return pick(d, m.Nodes...).ID
}
