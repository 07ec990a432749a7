package meta_test

import (
	"math/rand/v2"
	"reflect"
	"slices"
	"testing"

	"topiary/api"
	"topiary/lang"
	"topiary/meta"
)

// The chapter's words, written once more, as a list of all that may be wrong and as slowly as one likes, so that the tests hold the package against something else than itself.

// A slow table is some languages, gone through anew at every question.
type slow []api.Language

func (s slow) find(name string) (api.Concept, string, bool) {
	for _, l := range s {
		for _, c := range l.Concepts {
			if c.Name == name {
				return c, l.Name, true
			}
		}
	}
	return api.Concept{}, "", false
}

func (s slow) has(name string) bool {
	_, _, ok := s.find(name)
	return ok
}

// line is a concept and what is above it, the nearest first; where that is without an end, what was met once is met no more.
func (s slow) line(name string) []api.Concept {
	var out []api.Concept
	met := map[string]bool{}
	for c, _, ok := s.find(name); ok && !met[c.Name]; c, _, ok = s.find(c.Super) {
		met[c.Name] = true
		out = append(out, c)
	}
	return out
}

// inRing tells whether a concept is above itself.
func (s slow) inRing(name string) bool {
	line := s.line(name)
	return len(line) > 0 && slices.ContainsFunc(line, func(c api.Concept) bool { return c.Super == name })
}

func (s slow) concepts() []string {
	var out []string
	for _, l := range s {
		for _, c := range l.Concepts {
			out = append(out, c.Name)
		}
	}
	slices.Sort(out)
	return out
}

func (s slow) concept(name string) (api.Concept, bool) {
	c, _, ok := s.find(name)
	c.Props, c.Kids, c.Refs = nil, nil, nil
	for _, up := range slices.Backward(s.line(name)) {
		c.Props = append(c.Props, up.Props...)
		c.Kids = append(c.Kids, up.Kids...)
		c.Refs = append(c.Refs, up.Refs...)
	}
	return c, ok
}

func (s slow) lang(name string) string {
	_, l, _ := s.find(name)
	return l
}

func (s slow) below(a, b string) bool {
	return a == b || s.has(a) && slices.ContainsFunc(s.line(a), func(c api.Concept) bool { return c.Name == b })
}

func (s slow) scope(name, role string) (string, bool) {
	for _, c := range s.line(name) {
		for _, l := range s {
			for _, r := range l.Rules {
				if r.Concept == c.Name && r.Scope && r.Name == role {
					return r.Expr, true
				}
			}
		}
	}
	return "", false
}

func (s slow) rules(name string) []api.Rule {
	var out []api.Rule
	for _, c := range slices.Backward(s.line(name)) {
		for _, l := range s {
			for _, r := range l.Rules {
				if r.Concept == c.Name && !r.Scope {
					out = append(out, r)
				}
			}
		}
	}
	return out
}

func (s slow) equations(name string) []api.Equation {
	var out []api.Equation
	for _, c := range slices.Backward(s.line(name)) {
		for _, l := range s {
			for _, q := range l.Equations {
				if q.Concept == c.Name {
					out = append(out, q)
				}
			}
		}
	}
	return out
}

func (s slow) editor(name string) ([]api.Cell, bool) {
	for _, c := range s.line(name) {
		for _, l := range s {
			for _, e := range l.Editors {
				if e.Concept == c.Name {
					return e.Cells, true
				}
			}
		}
	}
	return nil, false
}

func (s slow) template(name string) ([]api.Piece, bool) {
	for _, c := range s.line(name) {
		for _, l := range s {
			for _, e := range l.Templates {
				if e.Concept == c.Name {
					return e.Pieces, true
				}
			}
		}
	}
	return nil, false
}

// A list of what was asked, in the chapter's order.
type asked []struct {
	f     api.Fault
	holds bool
}

func (a *asked) ask(in, at, part int, e api.Errno, holds bool) {
	*a = append(*a, struct {
		f     api.Fault
		holds bool
	}{api.Fault{In: in, At: at, Part: part, Err: e}, holds})
}

// fault is that of the first thing that does not hold.
func (s slow) fault() api.Fault {
	var a asked
	a.ask(1280, 0, 0, api.ErrFull, len(s) <= 128)
	for i, l := range s {
		f := lang.Check(l)
		a.ask(10*i+f.In, f.At, f.Part, f.Err, f.Err == api.OK)
	}
	for i, l := range s {
		for _, ahead := range s[:i] {
			a.ask(10*i, 0, 0, api.ErrTwice, ahead.Name != l.Name)
		}
	}
	var ahead []string
	for i, l := range s {
		for at, c := range l.Concepts {
			a.ask(10*i+2, at, 0, api.ErrFull, len(ahead) < 128)
			a.ask(10*i+2, at, 0, api.ErrTwice, !slices.Contains(ahead, c.Name))
			ahead = append(ahead, c.Name)
		}
	}
	for i, l := range s {
		for at, c := range l.Concepts {
			a.ask(10*i+2, at, 0, api.ErrUnknown, c.Super == "" || s.has(c.Super))
			a.ask(10*i+2, at, 0, api.ErrRing, !s.inRing(c.Name))
		}
	}
	for i, l := range s {
		for at, c := range l.Concepts {
			s.askParts(&a, 10*i+2, at, c)
		}
	}
	s.askRest(&a)
	for _, q := range a {
		if !q.holds {
			return q.f
		}
	}
	return api.Fault{}
}

func (s slow) askParts(a *asked, in, at int, c api.Concept) {
	all, _ := s.concept(c.Name)
	part := 0
	for i, p := range c.Props {
		part++
		n := len(all.Props) - len(c.Props) + i
		a.ask(in, at, part, api.ErrFull, n < 32)
		for _, ahead := range all.Props[:max(n, 0)] {
			a.ask(in, at, part, api.ErrTwice, ahead.Name != p.Name)
		}
	}
	for i, k := range c.Kids {
		part++
		n := len(all.Kids) - len(c.Kids) + i
		a.ask(in, at, part, api.ErrFull, n < 32)
		for _, ahead := range all.Kids[:max(n, 0)] {
			a.ask(in, at, part, api.ErrTwice, ahead.Role != k.Role)
		}
		a.ask(in, at, part, api.ErrUnknown, s.has(k.Concept))
	}
	for i, r := range c.Refs {
		part++
		n := len(all.Refs) - len(c.Refs) + i
		a.ask(in, at, part, api.ErrFull, n < 32)
		for _, ahead := range all.Refs[:max(n, 0)] {
			a.ask(in, at, part, api.ErrTwice, ahead.Role != r.Role)
		}
		a.ask(in, at, part, api.ErrUnknown, s.has(r.Concept))
	}
}

func (s slow) askRest(a *asked) {
	var rules []api.Rule
	var editors, templates []string
	for i, l := range s {
		for at, r := range l.Rules {
			a.ask(10*i+3, at, 0, api.ErrUnknown, s.has(r.Concept))
			c, _ := s.concept(r.Concept)
			a.ask(10*i+3, at, 0, api.ErrUnknown, !r.Scope || slices.ContainsFunc(c.Refs, func(x api.RefDef) bool { return x.Role == r.Name }))
			r.Expr = ""
			a.ask(10*i+3, at, 0, api.ErrTwice, !slices.Contains(rules, r))
			rules = append(rules, r)
		}
		for at, q := range l.Equations {
			a.ask(10*i+4, at, 0, api.ErrUnknown, s.has(q.Concept))
		}
		for at, e := range l.Editors {
			a.ask(10*i+5, at, 0, api.ErrUnknown, s.has(e.Concept))
			a.ask(10*i+5, at, 0, api.ErrTwice, !slices.Contains(editors, e.Concept))
			editors = append(editors, e.Concept)
		}
		for at, e := range l.Templates {
			a.ask(10*i+6, at, 0, api.ErrUnknown, s.has(e.Concept))
			a.ask(10*i+6, at, 0, api.ErrTwice, !slices.Contains(templates, e.Concept))
			templates = append(templates, e.Concept)
		}
	}
}

// isSame holds two answers against each other, whatever fields they have; nil lists and empty ones are the same.
func isSame(a, b any) bool { return same(reflect.ValueOf(a), reflect.ValueOf(b)) }

func same(a, b reflect.Value) bool {
	switch a.Kind() {
	case reflect.Slice:
		if a.Len() != b.Len() {
			return false
		}
		for i := range a.Len() {
			if !same(a.Index(i), b.Index(i)) {
				return false
			}
		}
		return true
	case reflect.Struct:
		for i := range a.NumField() {
			if !same(a.Field(i), b.Field(i)) {
				return false
			}
		}
		return true
	}
	return a.Interface() == b.Interface()
}

// Everything that a table may be asked about one concept, but Below.
type told struct {
	Has      bool
	Concept  api.Concept
	Is       bool
	Lang     string
	Scopes   []api.Rule
	Rules    []api.Rule
	Equal    []api.Equation
	Cells    []api.Cell
	Edited   bool
	Pieces   []api.Piece
	Template bool
}

// roles are all that a test calls a reference, and what is none.
var roles = []string{"to", "up", "r0", "r1", "r2", "r3", "v", "k0", "ok", "", "?r", "x"}

func toldOf(m *meta.Table, name string) told {
	t := told{Has: m.Has(name), Lang: m.Lang(name), Rules: m.Rules(name), Equal: m.Equations(name)}
	t.Concept, t.Is = m.Concept(name)
	t.Cells, t.Edited = m.Editor(name)
	t.Pieces, t.Template = m.Template(name)
	for _, role := range roles {
		e, ok := m.Scope(name, role)
		t.Scopes = append(t.Scopes, api.Rule{Name: role, Expr: e, Scope: ok})
	}
	return t
}

func (s slow) told(name string) told {
	t := told{Has: s.has(name), Lang: s.lang(name), Rules: s.rules(name), Equal: s.equations(name)}
	t.Concept, t.Is = s.concept(name)
	t.Cells, t.Edited = s.editor(name)
	t.Pieces, t.Template = s.template(name)
	for _, role := range roles {
		e, ok := s.scope(name, role)
		t.Scopes = append(t.Scopes, api.Rule{Name: role, Expr: e, Scope: ok})
	}
	return t
}

// others are texts that are no concepts' names, in all tests.
var others = []string{"", "?", "?Kept", "none", "zz", "num", "Nu", "Num ", "\x00", "\xff"}

// tells asks that New tells that fault of the languages, and that the slow one does; and, where there is none, that the table answers as the slow one.
func tells(t *testing.T, what string, ls []api.Language, want api.Fault) *meta.Table {
	t.Helper()
	m, f := meta.New(ls)
	if s := slow(ls).fault(); f != want || s != want {
		t.Fatalf("%s: %v, the slow one %v, not %v", what, f, s, want)
	}
	if (m == nil) != (want.Err != api.OK) {
		t.Fatalf("%s: a table %v, with %v", what, m != nil, f)
	}
	if m != nil {
		answers(t, what, m, ls)
	}
	return m
}

// answers asks that a new table answers as the slow one.
func answers(t *testing.T, what string, m *meta.Table, ls []api.Language) {
	t.Helper()
	s := slow(ls)
	if got := m.Concepts(); !isSame(got, s.concepts()) {
		t.Fatalf("%s: Concepts %q, not %q", what, got, s.concepts())
	}
	names := append(s.concepts(), others...)
	for _, n := range names {
		if got, want := toldOf(m, n), s.told(n); !isSame(got, want) {
			t.Fatalf("%s: of %q\n%+v, not\n%+v", what, n, got, want)
		}
	}
	uses := m.Uses()
	for i, a := range names {
		for k, b := range names {
			if got := m.Below(a, b); got != s.below(a, b) {
				t.Fatalf("%s: Below of %q and %q: %v", what, a, b, got)
			}
			if n := uses + i*len(names) + k + 1; m.Uses() != n {
				t.Fatalf("%s: Uses %d, not %d", what, m.Uses(), n)
			}
		}
	}
}

// A dice throws the same on every run.
type dice struct{ *rand.Rand }

func newDice(seed uint64) dice { return dice{rand.New(rand.NewPCG(seed, 5))} }

func pick[E any](d dice, l ...E) E { return l[d.IntN(len(l))] }
