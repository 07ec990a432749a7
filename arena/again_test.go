package arena_test

import (
	"math/rand/v2"
	"regexp"
	"slices"
	"sort"
	"strings"

	"topiary/api"
)

// The chapter's words, written once more, on trees of pointers and as slowly as one likes, so that the tests hold the package against something else than itself.

var wordShape = regexp.MustCompile(`^\??[A-Za-z][A-Za-z0-9_]{0,31}$`)

func isWord(s string) bool { return wordShape.MatchString(s) && !strings.HasSuffix(s, "\n") }

// isRight asks the chapter's four conditions one by one.
func isRight(m api.Model) bool {
	if m.Next < 1 || m.Next > 1<<20+1 || len(m.Nodes) > 4096 {
		return false
	}
	byID := map[int]api.Node{}
	standing := map[int]int{}
	for i, n := range m.Nodes {
		if n.ID < 1 || n.ID > m.Next-1 || i > 0 && n.ID <= m.Nodes[i-1].ID || !isSpelt(n, m.Next) {
			return false
		}
		byID[n.ID] = n
		for _, k := range n.Kids {
			standing[k]++
		}
	}
	for _, n := range m.Nodes {
		for _, k := range n.Kids {
			if kid, is := byID[k]; !is || kid.Parent != n.ID || standing[k] != 1 {
				return false
			}
		}
		if _, is := byID[n.Parent]; n.Parent != 0 && (!is || standing[n.ID] != 1) {
			return false
		}
	}
	for _, n := range m.Nodes {
		levels := 1
		for n.Parent != 0 && levels <= 64 {
			n = byID[n.Parent]
			levels++
		}
		if levels > 64 {
			return false
		}
	}
	return true
}

func isSpelt(n api.Node, next int) bool {
	if !isWord(n.Concept) || (n.Parent == 0) != (n.Role == "") || n.Role != "" && !isWord(n.Role) {
		return false
	}
	for i, p := range n.Props {
		if !isWord(p.Name) || len(p.Value) > 4096 || i > 0 && n.Props[i-1].Name >= p.Name {
			return false
		}
	}
	for i, r := range n.Refs {
		if !isWord(r.Role) || r.Target < 1 || r.Target > next-1 || i > 0 && n.Refs[i-1].Role >= r.Role {
			return false
		}
	}
	return true
}

// A branch is a node, with what is below it.
type branch struct {
	id            int
	concept, role string
	props         map[string]string
	refs          map[string]int
	above         *branch
	kids          []*branch
}

// A wood is a model that is right.
type wood struct {
	next int
	all  map[int]*branch
}

func grown(m api.Model) *wood {
	w := &wood{m.Next, map[int]*branch{}}
	for _, n := range m.Nodes {
		b := &branch{id: n.ID, concept: n.Concept, role: n.Role, props: map[string]string{}, refs: map[string]int{}}
		for _, p := range n.Props {
			b.props[p.Name] = p.Value
		}
		for _, r := range n.Refs {
			b.refs[r.Role] = r.Target
		}
		w.all[n.ID] = b
	}
	for _, n := range m.Nodes {
		w.all[n.ID].above = w.all[n.Parent]
		for _, k := range n.Kids {
			w.all[n.ID].kids = append(w.all[n.ID].kids, w.all[k])
		}
	}
	return w
}

func (w *wood) model() api.Model {
	m := api.Model{Next: w.next}
	for _, id := range w.ids() {
		b := w.all[id]
		n := api.Node{ID: id, Concept: b.concept, Role: b.role}
		if b.above != nil {
			n.Parent = b.above.id
		}
		for name, value := range b.props {
			n.Props = append(n.Props, api.Prop{Name: name, Value: value})
		}
		for role, target := range b.refs {
			n.Refs = append(n.Refs, api.Ref{Role: role, Target: target})
		}
		for _, k := range b.kids {
			n.Kids = append(n.Kids, k.id)
		}
		sort.Slice(n.Props, func(i, j int) bool { return n.Props[i].Name < n.Props[j].Name })
		sort.Slice(n.Refs, func(i, j int) bool { return n.Refs[i].Role < n.Refs[j].Role })
		m.Nodes = append(m.Nodes, n)
	}
	return m
}

func (w *wood) ids() []int {
	var l []int
	for id := range w.all {
		l = append(l, id)
	}
	slices.Sort(l)
	return l
}

// order is the document order of all.
func (w *wood) order() []int {
	var l []int
	for _, id := range w.ids() {
		if b := w.all[id]; b.above == nil {
			l = append(append(l, id), below(b)...)
		}
	}
	return l
}

func below(b *branch) []int {
	var l []int
	for _, k := range b.kids {
		l = append(append(l, k.id), below(k)...)
	}
	return l
}

func kidsIn(b *branch, role string) []int {
	var l []int
	for _, k := range b.kids {
		if k.role == role {
			l = append(l, k.id)
		}
	}
	return l
}

func depthOf(b *branch) int {
	if b == nil {
		return 0
	}
	return 1 + depthOf(b.above)
}

func heightOf(b *branch) int {
	h := 0
	for _, k := range b.kids {
		h = max(h, heightOf(k))
	}
	return h + 1
}

func (w *wood) users(id int) []int {
	var l []int
	for _, at := range w.order() {
		for _, target := range w.all[at].refs {
			if target == id {
				l = append(l, at)
				break
			}
		}
	}
	return l
}

// place is the index among a node's kids of a role's place.
func place(b *branch, role string, at int) (int, bool) {
	var of []int
	for i, k := range b.kids {
		if k.role == role {
			of = append(of, i)
		}
	}
	switch {
	case at < 0 || at > len(of):
		return 0, false
	case at < len(of):
		return of[at], true
	case len(of) > 0:
		return of[len(of)-1] + 1, true
	}
	return len(b.kids), true
}

// stand puts b, which stands nowhere, or tells why not; without it nothing is changed.
func (w *wood) stand(b *branch, parent int, role string, at, more int) api.Errno {
	p := w.all[parent]
	i, ok := 0, role == "" && at == 0
	if p != nil {
		i, ok = place(p, role, at)
	}
	switch {
	case !ok:
		return api.ErrPlace
	case depthOf(p)+heightOf(b) > 64:
		return api.ErrDeep
	case len(w.all)+more > 4096 || w.next+more > 1<<20+1:
		return api.ErrFull
	}
	b.above, b.role = p, role
	if p != nil {
		p.kids = slices.Insert(p.kids, i, b)
	}
	return api.OK
}

func (w *wood) takeOff(b *branch) {
	if p := b.above; p != nil {
		p.kids = slices.DeleteFunc(p.kids, func(k *branch) bool { return k == b })
	}
}

func (w *wood) isParent(id int) bool { return id == 0 || w.all[id] != nil }

// An answer is what a call that answers a model comes to.
type answer struct {
	m  api.Model
	id int
	e  api.Errno
}

func failed(e api.Errno) answer { return answer{e: e} }

func addAgain(m api.Model, parent int, role string, at int, concept string) answer {
	switch {
	case !isRight(m):
		return failed(api.ErrModel)
	case !isWord(concept) || parent != 0 && !isWord(role):
		return failed(api.ErrArg)
	}
	w := grown(m)
	if !w.isParent(parent) {
		return failed(api.ErrNoNode)
	}
	b := &branch{id: w.next, concept: concept}
	if e := w.stand(b, parent, role, at, 1); e != api.OK {
		return failed(e)
	}
	w.all[b.id] = b
	w.next++
	return answer{w.model(), b.id, api.OK}
}

func removeAgain(m api.Model, id int) answer {
	if !isRight(m) {
		return failed(api.ErrModel)
	}
	w := grown(m)
	b := w.all[id]
	if b == nil {
		return failed(api.ErrNoNode)
	}
	w.takeOff(b)
	for _, gone := range append(below(b), id) {
		delete(w.all, gone)
	}
	return answer{m: w.model()}
}

func moveAgain(m api.Model, id, parent int, role string, at int) answer {
	switch {
	case !isRight(m):
		return failed(api.ErrModel)
	case parent != 0 && !isWord(role):
		return failed(api.ErrArg)
	}
	w := grown(m)
	b := w.all[id]
	switch {
	case b == nil || !w.isParent(parent):
		return failed(api.ErrNoNode)
	case slices.Contains(append(below(b), id), parent):
		return failed(api.ErrLoop)
	}
	w.takeOff(b)
	if e := w.stand(b, parent, role, at, 0); e != api.OK {
		return failed(e)
	}
	return answer{m: w.model()}
}

func copyAgain(m api.Model, id, parent int, role string, at int) answer {
	switch {
	case !isRight(m):
		return failed(api.ErrModel)
	case parent != 0 && !isWord(role):
		return failed(api.ErrArg)
	}
	w := grown(m)
	if w.all[id] == nil || !w.isParent(parent) {
		return failed(api.ErrNoNode)
	}
	part := append([]int{id}, below(w.all[id])...)
	// The part is grown a second time, so that its nodes are others than those that stay.
	again := grown(m)
	top := again.all[id]
	if e := w.stand(top, parent, role, at, len(part)); e != api.OK {
		return failed(e)
	}
	for _, b := range again.all {
		for r, target := range b.refs {
			if i := slices.Index(part, target); i >= 0 {
				b.refs[r] = m.Next + i
			}
		}
	}
	for i, old := range part {
		again.all[old].id = m.Next + i
		w.all[m.Next+i] = again.all[old]
	}
	w.next += len(part)
	return answer{w.model(), m.Next, api.OK}
}

// changeAgain is Put, Drop, Aim and Loose: value and target are only those calls' own.
func changeAgain(m api.Model, id int, word, value string, target int, change func(b *branch)) answer {
	switch {
	case !isRight(m):
		return failed(api.ErrModel)
	case !isWord(word):
		return failed(api.ErrArg)
	case len(value) > 4096:
		return failed(api.ErrLong)
	}
	w := grown(m)
	if w.all[id] == nil || !w.isParent(target) {
		return failed(api.ErrNoNode)
	}
	change(w.all[id])
	return answer{m: w.model()}
}

func putAgain(m api.Model, id int, name, value string) answer {
	return changeAgain(m, id, name, value, 0, func(b *branch) { b.props[name] = value })
}

func dropAgain(m api.Model, id int, name string) answer {
	return changeAgain(m, id, name, "", 0, func(b *branch) { delete(b.props, name) })
}

func aimAgain(m api.Model, id int, role string, target int) answer {
	if target == 0 {
		target = -1 // 0 is no node either, but isParent takes it
	}
	return changeAgain(m, id, role, "", target, func(b *branch) { b.refs[role] = target })
}

func looseAgain(m api.Model, id int, role string) answer {
	return changeAgain(m, id, role, "", 0, func(b *branch) { delete(b.refs, role) })
}

// A dice throws the same on every run.
type dice struct{ *rand.Rand }

func newDice(seed uint64) dice { return dice{rand.New(rand.NewPCG(seed, 2))} }

func (d dice) of(l ...string) string { return l[d.IntN(len(l))] }

// word is mostly one.
func (d dice) word() string {
	if d.IntN(12) == 0 {
		return d.of("", "?", "??a", "9", "a b", "_", strings.Repeat("a", 33))
	}
	return d.of("a", "b", "c", "?k", "?Kept", strings.Repeat("a", 32))
}

// id is mostly one of the model, or was.
func (d dice) id(m api.Model) int { return d.IntN(m.Next+2) - 1 }
