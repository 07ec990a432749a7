package sheet_test

import (
	"math/rand/v2"
	"regexp"
	"slices"
	"strconv"
	"strings"

	"topiary/api"
	"topiary/arena"
)

// The chapter's words, written once more, by shapes and as slowly as one likes, so that the tests hold the package against something else than itself.

const (
	wordShape = `\??[A-Za-z][A-Za-z0-9_]{0,31}`
	formShape = `(?:[ !#-\[\]-~]|\\["\\n]|\\x(?:0[0-9b-f]|1[0-9a-f]|7f|[89a-f][0-9a-f]))`
)

var (
	firstShape = regexp.MustCompile(`^next ([1-9][0-9]*)$`)
	rootShape  = regexp.MustCompile(`^([1-9][0-9]*) ` + wordShape + `$`)
	kidShape   = regexp.MustCompile(`^( +)([1-9][0-9]*) ` + wordShape + ` ` + wordShape + `$`)
	propShape  = regexp.MustCompile(`^( +)\.(` + wordShape + `)="(` + formShape + `*)"$`)
	refShape   = regexp.MustCompile(`^( +)>(` + wordShape + `)=([1-9][0-9]*)$`)
	aForm      = regexp.MustCompile(formShape)
)

// upTo tells whether the digits are of a number of at most that much.
func upTo(digits string, most int) bool {
	n, err := strconv.Atoi(digits)
	return err == nil && n <= most
}

// isNodes answers the ID of a node's line, and how deep the node stands; or 0.
func isNodes(line string) (id, deep int) {
	if f := rootShape.FindStringSubmatch(line); f != nil {
		id, _ = strconv.Atoi(f[1])
		return id, 1
	}
	if f := kidShape.FindStringSubmatch(line); f != nil {
		id, _ = strconv.Atoi(f[2])
		return id, len(f[1]) + 1
	}
	return 0, 0
}

// isRightLine asks what the chapter says of a line behind those ahead of it, which are right.
func isRightLine(ahead []string, line string) bool {
	if len(ahead) == 0 {
		f := firstShape.FindStringSubmatch(line)
		return f != nil && upTo(f[1], 1<<20+1)
	}
	next, _ := strconv.Atoi(ahead[0][len("next "):])
	nodes, ids, lastRoot, lastDeep := 0, []int(nil), 0, 0
	for _, a := range ahead {
		if id, deep := isNodes(a); id > 0 {
			nodes, ids, lastDeep = nodes+1, append(ids, id), deep
			if deep == 1 {
				lastRoot = id
			}
		}
	}
	directly := ahead[len(ahead)-1]
	if id, deep := isNodes(line); id > 0 {
		behind := deep > 1 && deep-1 <= lastDeep && deep-1 <= 63 || deep == 1 && id > lastRoot
		return behind && nodes < 4096 && id < next && !slices.Contains(ids, id)
	}
	if f := propShape.FindStringSubmatch(line); f != nil {
		p := propShape.FindStringSubmatch(directly)
		return nodes > 0 && len(f[1]) == lastDeep && !refShape.MatchString(directly) && (p == nil || f[2] > p[2]) && len(aForm.FindAllString(f[3], -1)) <= 4096
	}
	if f := refShape.FindStringSubmatch(line); f != nil {
		r := refShape.FindStringSubmatch(directly)
		return nodes > 0 && len(f[1]) == lastDeep && (r == nil || f[2] > r[2]) && upTo(f[3], next-1)
	}
	return false
}

// firstWrong is the number of the first line that is not right; 0 if all are, and there is one.
func firstWrong(text string) int {
	lines := strings.SplitAfter(text, "\n")
	if lines[len(lines)-1] == "" && len(lines) > 1 {
		lines = lines[:len(lines)-1]
	}
	var ahead []string
	for i, l := range lines {
		s, ended := strings.CutSuffix(l, "\n")
		if !ended || !isRightLine(ahead, s) {
			return i + 1
		}
		ahead = append(ahead, s)
	}
	return 0
}

// printed is a right model's text, however long.
func printed(m api.Model) string {
	b := new(strings.Builder)
	b.WriteString("next " + strconv.Itoa(m.Next) + "\n")
	for _, id := range arena.Order(m) {
		n, _ := arena.Find(m, id)
		k := arena.Depth(m, id)
		blanks := strings.Repeat(" ", k)
		if n.Parent == 0 {
			b.WriteString(strconv.Itoa(id) + " " + n.Concept + "\n")
		} else {
			b.WriteString(blanks[1:] + strconv.Itoa(id) + " " + n.Role + " " + n.Concept + "\n")
		}
		for _, p := range n.Props {
			b.WriteString(blanks + "." + p.Name + "=" + quoted(p.Value) + "\n")
		}
		for _, r := range n.Refs {
			b.WriteString(blanks + ">" + r.Role + "=" + strconv.Itoa(r.Target) + "\n")
		}
	}
	return b.String()
}

func quoted(s string) string {
	const digits = "0123456789abcdef"
	q := `"`
	for i := range len(s) {
		switch b := s[i]; {
		case b == '"' || b == '\\':
			q += `\` + string(rune(b))
		case b == 10:
			q += `\n`
		case 32 <= b && b <= 126:
			q += string(rune(b))
		default:
			q += `\x` + string(digits[b/16]) + string(digits[b%16])
		}
	}
	return q + `"`
}

// equal holds two models against each other, field by field.
func equal(a, b api.Model) bool {
	return a.Next == b.Next && slices.EqualFunc(a.Nodes, b.Nodes, func(a, b api.Node) bool {
		return a.ID == b.ID && a.Concept == b.Concept && a.Parent == b.Parent && a.Role == b.Role && slices.Equal(a.Props, b.Props) && slices.Equal(a.Kids, b.Kids) && slices.Equal(a.Refs, b.Refs)
	})
}

// A dice throws the same on every run.
type dice struct{ *rand.Rand }

func newDice(seed uint64) dice { return dice{rand.New(rand.NewPCG(seed, 3))} }

func (d dice) of(l ...string) string { return l[d.IntN(len(l))] }

func (d dice) word() string {
	return d.of("a", "b", "B", "c9", "a_", "?k", "?Kept", strings.Repeat("a", 32), "?"+strings.Repeat("z", 32))
}

func (d dice) value() string {
	b := make([]byte, d.IntN(6))
	for i := range b {
		b[i] = d.of("a", "\"", "\\", "\n", " ", "=", "\x00", "\x7f", "\xff")[0]
	}
	return string(b)
}

// grown is a right model after so many throws; what arena refuses of them is left out.
func grown(d dice, throws int) api.Model {
	m := arena.New()
	for range throws {
		if next, e := thrown(d, m); e == api.OK {
			m = next
		}
	}
	return m
}

func thrown(d dice, m api.Model) (out api.Model, e api.Errno) {
	id, parent, role, at := 1+d.IntN(m.Next), d.IntN(m.Next), d.word(), d.IntN(3)
	if parent == 0 {
		role, at = "", 0
	}
	switch d.IntN(10) {
	case 0, 1, 2:
		out, _, e = arena.Add(m, parent, role, at, d.word())
	case 3, 4:
		out, e = arena.Put(m, id, d.word(), d.value())
	case 5, 6:
		out, e = arena.Aim(m, id, d.word(), parent)
	case 7:
		out, _, e = arena.Copy(m, id, parent, role, at)
	case 8:
		out, e = arena.Move(m, id, parent, role, at)
	default:
		if d.IntN(4) > 0 {
			return m, api.OK
		}
		out, e = arena.Remove(m, id)
	}
	return out, e
}
