package machine_test

import (
	"math/big"
	"slices"
	"strconv"
	"strings"

	"topiary/api"
)

// The chapter's words, written once more, and as slowly as one likes: instructions by their words, nodes looked for one by one, sums of numbers of any size, a run that is never short of fuel and notes all that it did. So the tests hold the package against something else than itself.

// opWords are the instructions' words, by their Ops from 1 on.
const opWords = "step int text true false self none load free prop kids ref parent is all size first show concept id read add sub mul eq ne lt le not and or truth unless jump any every only sum next take"

func wordOf(op int) string { return strings.Fields(opWords)[op-1] }

func opOf(word string) int { return slices.Index(strings.Fields(opWords), word) + 1 }

// A moment is that an instruction was begun, and how many steps had been asked for when it was done.
type moment struct{ place, steps int }

// A come is what code comes to with any fuel: a value or an error, by how many steps, and all moments of that.
type come struct {
	v       api.Value
	err     api.Errno
	steps   int
	moments []moment
}

// with is what the code comes to with so much fuel.
func (c come) with(fuel int) come {
	switch {
	case fuel < c.steps:
		return come{err: api.ErrFuel}
	case c.err != api.OK:
		return come{err: c.err}
	}
	return come{v: c.v, steps: c.steps}
}

// begun is how often each of so many instructions is begun with so much fuel.
func (c come) begun(places, fuel int) []int {
	out := make([]int, places)
	for _, m := range c.moments {
		out[m.place]++
		if m.steps > fuel {
			break
		}
	}
	return out
}

// A turning is a loop: what stands behind the place of its next, its list, and what has come at the elements that it has been at.
type turning struct {
	word string
	next int
	list []int
	been int
	came []api.Value
}

// A slow is some languages, a right model, a node of it, or 0; code that is right, and a run of that.
type slow struct {
	ls      []api.Language
	m       api.Model
	self    int
	list    []api.Ins
	at      int
	stack   []api.Value
	loops   []turning
	steps   int
	moments []moment
}

// come is what the code comes to. Beyond any fuel nothing more is asked.
func (s slow) come() come {
	for s.at < len(s.list) {
		place := s.at
		s.at++
		err := s.do(place, s.list[place])
		s.moments = append(s.moments, moment{place, s.steps})
		if err != api.OK {
			return come{err: err, steps: s.steps, moments: s.moments}
		}
	}
	if len(s.stack) != 1 || len(s.loops) != 0 {
		panic("at the end there is something else than one value")
	}
	return come{s.stack[0], api.OK, s.steps, s.moments}
}

func number(n int64) api.Value { return api.Value{Kind: api.VInt, Int: n} }
func words(t string) api.Value { return api.Value{Kind: api.VText, Text: t} }
func truth(b bool) api.Value   { return api.Value{Kind: api.VBool, Bool: b} }
func node(id int) api.Value    { return api.Value{Kind: api.VNode, Node: id} }
func list(l []int) api.Value   { return api.Value{Kind: api.VList, List: l} }

func (s *slow) put(v api.Value) api.Errno {
	s.stack = append(slices.Clone(s.stack), v)
	return api.OK
}

// take is the last value, and whether it is of that Kind.
func (s *slow) take(kind int) (api.Value, bool) {
	v := s.stack[len(s.stack)-1]
	s.stack = slices.Clone(s.stack[:len(s.stack)-1])
	return v, v.Kind == kind
}

// step asks for so many steps, one by one.
func (s *slow) step(n int) api.Errno {
	for range n {
		s.steps++
		if s.steps > api.MaxFuel {
			return api.ErrFuel
		}
	}
	return api.OK
}

// is tells whether a word is one of some.
func is(word, words string) bool { return slices.Contains(strings.Fields(words), word) }

func (s *slow) do(place int, n api.Ins) api.Errno {
	word := wordOf(n.Op)
	switch {
	case word == "step":
		return s.step(n.Arg)
	case is(word, "int text true false self none load free"):
		return s.plain(word, n)
	case is(word, "prop kids ref parent is all concept id"):
		v, ok := s.take(api.VNode)
		if !ok {
			return api.ErrKind
		}
		over, there := s.node(v.Node)
		if !there {
			return api.ErrNone
		}
		return s.ofNode(word, n.Text, over)
	case is(word, "size first show read"):
		return s.one(word)
	case is(word, "add sub mul eq ne lt le"):
		b, _ := s.take(0)
		a, _ := s.take(0)
		v, err := two(word, a, b)
		if err != api.OK {
			return err
		}
		return s.put(v)
	case is(word, "any every only sum"):
		v, ok := s.take(api.VList)
		if !ok {
			return api.ErrKind
		}
		s.loops = append(slices.Clone(s.loops), turning{word: word, next: place + 1, list: v.List})
		return api.OK
	case is(word, "next take"):
		return s.turn(word, n.Arg)
	}
	return s.way(word, n.Arg)
}

// plain puts what hangs on no value.
func (s *slow) plain(word string, n api.Ins) api.Errno {
	switch word {
	case "int":
		return s.put(number(n.Int))
	case "text":
		return s.put(words(n.Text))
	case "true", "false":
		return s.put(truth(word == "true"))
	case "self":
		return s.put(node(s.self))
	case "none":
		return s.put(node(0))
	case "load":
		l := s.loops[len(s.loops)-1-n.Arg]
		return s.put(node(l.list[l.been-1]))
	}
	return api.ErrVar
}

// way does what takes a bool, or nothing, and may go on elsewhere.
func (s *slow) way(word string, to int) api.Errno {
	if word == "jump" {
		s.at = to
		return api.OK
	}
	v, ok := s.take(api.VBool)
	switch {
	case !ok:
		return api.ErrKind
	case word == "not":
		return s.put(truth(!v.Bool))
	case word == "truth":
		return s.put(v)
	case word == "unless" && !v.Bool:
		s.at = to
	case word == "and" && !v.Bool, word == "or" && v.Bool:
		s.at = to
		return s.put(v)
	}
	return api.OK
}

// turn does a next, or a take.
func (s *slow) turn(word string, arg int) api.Errno {
	l := &s.loops[len(s.loops)-1]
	if word == "next" {
		if l.been < len(l.list) {
			l.been++
			return s.step(1)
		}
		return s.end(*l, s.list[l.next].Arg)
	}
	wanted := api.VBool
	if l.word == "sum" {
		wanted = api.VInt
	}
	v, ok := s.take(wanted)
	if !ok {
		return api.ErrKind
	}
	l.came = append(slices.Clone(l.came), v)
	if l.word == "sum" {
		if _, ok := sumOf(l.came); !ok {
			return api.ErrOver
		}
	}
	if l.word == "any" && v.Bool || l.word == "every" && !v.Bool {
		return s.end(*l, s.list[arg].Arg)
	}
	s.at = arg
	return api.OK
}

// end ends the last loop, and puts what has come of it.
func (s *slow) end(l turning, to int) api.Errno {
	s.loops = slices.Clone(s.loops[:len(s.loops)-1])
	s.at = to
	var yes []int
	for i, v := range l.came {
		if v.Bool {
			yes = append(yes, l.list[i])
		}
	}
	switch l.word {
	case "any":
		return s.put(truth(len(yes) > 0))
	case "every":
		return s.put(truth(len(yes) == len(l.came)))
	case "only":
		return s.put(list(yes))
	}
	sum, _ := sumOf(l.came)
	return s.put(number(sum))
}

func sumOf(l []api.Value) (int64, bool) {
	sum := new(big.Int)
	for _, v := range l {
		sum.Add(sum, big.NewInt(v.Int))
	}
	return sum.Int64(), sum.IsInt64()
}

// one does what takes a list, an int or a text.
func (s *slow) one(word string) api.Errno {
	v, ok := s.take(map[string]int{"size": api.VList, "first": api.VList, "show": api.VInt, "read": api.VText}[word])
	if !ok {
		return api.ErrKind
	}
	switch word {
	case "size":
		return s.put(number(int64(len(v.List))))
	case "first":
		return s.put(node(append(slices.Clone(v.List), 0)[0]))
	case "show":
		return s.put(words(big.NewInt(v.Int).String()))
	}
	b, ok := new(big.Int).SetString(v.Text, 10)
	if !ok || !b.IsInt64() || b.String() != v.Text {
		return api.ErrTexts
	}
	return s.put(number(b.Int64()))
}

// ofNode does what takes a node.
func (s *slow) ofNode(word, text string, over api.Node) api.Errno {
	switch word {
	case "prop":
		value := ""
		for _, p := range over.Props {
			if p.Name == text {
				value = p.Value
			}
		}
		return s.put(words(value))
	case "kids":
		var l []int
		for _, id := range over.Kids {
			if kid, _ := s.node(id); kid.Role == text {
				l = append(l, id)
			}
		}
		return s.put(list(l))
	case "ref":
		target := 0
		for _, r := range over.Refs {
			if _, there := s.node(r.Target); there && r.Role == text {
				target = r.Target
			}
		}
		return s.put(node(target))
	case "parent":
		return s.put(node(over.Parent))
	case "is":
		return s.put(truth(s.isBelow(over.Concept, text)))
	case "concept":
		return s.put(words(over.Concept))
	case "id":
		return s.put(number(int64(over.ID)))
	}
	var l []int
	for _, id := range s.under(over) {
		if s.step(1) != api.OK {
			return api.ErrFuel
		}
		if kid, _ := s.node(id); s.isBelow(kid.Concept, text) {
			l = append(l, id)
		}
	}
	return s.put(list(l))
}

func (s *slow) node(id int) (api.Node, bool) {
	for _, n := range s.m.Nodes {
		if n.ID == id {
			return n, true
		}
	}
	return api.Node{}, false
}

// under are all nodes below one, in document order.
func (s *slow) under(over api.Node) []int {
	var out []int
	for _, id := range over.Kids {
		kid, _ := s.node(id)
		out = append(append(out, id), s.under(kid)...)
	}
	return out
}

// isBelow tells whether a concept is that one, or below it.
func (s *slow) isBelow(a, b string) bool {
	for _, l := range s.ls {
		for _, c := range l.Concepts {
			if a != b && c.Name == a && c.Super != "" {
				return s.isBelow(c.Super, b)
			}
		}
	}
	return a == b
}

// two is what two values come to.
func two(word string, a, b api.Value) (api.Value, api.Errno) {
	ints := a.Kind == api.VInt && b.Kind == api.VInt
	texts := a.Kind == api.VText && b.Kind == api.VText
	switch {
	case is(word, "eq ne") && (a.Kind != b.Kind || a.Kind == api.VList),
		is(word, "add lt le") && !ints && !texts, is(word, "sub mul") && !ints:
		return api.Value{}, api.ErrKind
	case is(word, "eq ne"):
		return truth(sameValue(a, b) == (word == "eq")), api.OK
	case is(word, "lt le"):
		less := ints && a.Int < b.Int || texts && slices.Compare([]byte(a.Text), []byte(b.Text)) < 0
		return truth(less || word == "le" && sameValue(a, b)), api.OK
	case texts && len(a.Text)+len(b.Text) > 4096:
		return api.Value{}, api.ErrLong
	case texts:
		return words(strings.Join([]string{a.Text, b.Text}, "")), api.OK
	}
	x, y, z := big.NewInt(a.Int), big.NewInt(b.Int), new(big.Int)
	switch word {
	case "add":
		z.Add(x, y)
	case "sub":
		z.Sub(x, y)
	case "mul":
		z.Mul(x, y)
	}
	if !z.IsInt64() {
		return api.Value{}, api.ErrOver
	}
	return number(z.Int64()), api.OK
}

// sameValue tells whether two values are the same in all fields.
func sameValue(a, b api.Value) bool {
	return a.Kind == b.Kind && a.Int == b.Int && a.Text == b.Text && a.Bool == b.Bool && a.Node == b.Node && slices.Equal(a.List, b.List)
}

// show tells what code came to: `12, 22 steps`; an error has no steps.
func (c come) show() string {
	s := "error " + strconv.Itoa(int(c.err))
	switch c.v.Kind {
	case api.VInt:
		s = strconv.FormatInt(c.v.Int, 10)
	case api.VText:
		s = strconv.Quote(c.v.Text)
	case api.VBool:
		s = strconv.FormatBool(c.v.Bool)
	case api.VNode:
		s = "@" + strconv.Itoa(c.v.Node)
	case api.VList:
		s = "[" + numbers(c.v.List) + "]"
	}
	return s + ", " + strconv.Itoa(c.steps) + " steps"
}

// numbers tells a list.
func numbers(l []int) string {
	var out []string
	for _, n := range l {
		out = append(out, strconv.Itoa(n))
	}
	return strings.Join(out, " ")
}
