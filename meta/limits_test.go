package meta_test

import (
	"strconv"
	"sync"
	"testing"

	"topiary/api"
	"topiary/meta"
)

// rowOf is a list of n elements.
func rowOf[E any](n int, of func(i int) E) []E {
	out := make([]E, n)
	for i := range out {
		out[i] = of(i)
	}
	return out
}

func nth(i int) string { return "n" + strconv.Itoa(i) }

func languages(n int) []api.Language {
	return rowOf(n, func(i int) api.Language { return api.Language{Name: nth(i), Version: 1} })
}

// P5.1: 128 languages and one more, whatever else is wrong with them.
func TestManyLanguages(t *testing.T) {
	tells(t, "128 languages", languages(128), api.Fault{})
	full := api.Fault{In: 1280, Err: api.ErrFull}
	tells(t, "129 languages", languages(129), full)
	tells(t, "300 languages", languages(300), full)
	tells(t, "129 languages without a name", make([]api.Language, 129), full)
	tells(t, "128 languages without a name", make([]api.Language, 128), api.Fault{Err: api.ErrArg})
	ls := languages(128)
	ls[127].Version = 0
	tells(t, "the last one wrong", ls, api.Fault{In: 1270, At: 1, Err: api.ErrArg})
	ls[127] = ls[0]
	tells(t, "the last one twice", ls, api.Fault{In: 1270, Err: api.ErrTwice})
}

// P5.1: 128 concepts and one more, out of several languages.
func TestManyConcepts(t *testing.T) {
	of := func(sizes ...int) []api.Language {
		ls, n := languages(len(sizes)), 0
		for i, size := range sizes {
			ls[i].Concepts = rowOf(size, func(int) api.Concept {
				n++
				return api.Concept{Name: nth(n)}
			})
		}
		return ls
	}
	tells(t, "128 of one", of(128), api.Fault{})
	tells(t, "128 of three", of(100, 0, 28), api.Fault{})
	tells(t, "129 of one", of(129), api.Fault{In: 2, At: 128, Err: api.ErrFull})
	tells(t, "129 of two", of(128, 1), api.Fault{In: 12, Err: api.ErrFull})
	tells(t, "many of four", of(100, 0, 100, 100), api.Fault{In: 22, At: 28, Err: api.ErrFull})
	ls := of(100, 0, 30)
	ls[2].Concepts[28] = api.Concept{Name: "n1", Super: "none"}
	tells(t, "the one too many twice", ls, api.Fault{In: 22, At: 28, Err: api.ErrFull})
	ls[2].Concepts[27].Name = "n100"
	tells(t, "the one ahead twice", ls, api.Fault{In: 22, At: 27, Err: api.ErrTwice})
	ls[0].Name = "n2"
	tells(t, "a language twice", ls, api.Fault{In: 20, Err: api.ErrTwice})
	ls = of(100, 0, 29)
	ls[0].Concepts[0].Super = "none"
	tells(t, "a Super that isn't there", ls, api.Fault{In: 22, At: 28, Err: api.ErrFull})
}

// Which of a concept's parts: put gives it n of them, with the numbers from some number on.
type partKind struct {
	what string
	put  func(c *api.Concept, from, n int)
	cut  func(c *api.Concept, n int)
}

func partKinds() []partKind {
	return []partKind{
		{"properties", func(c *api.Concept, from, n int) {
			c.Props = rowOf(n, func(i int) api.PropDef { return api.PropDef{Name: nth(from + i), Type: 1} })
		}, func(c *api.Concept, n int) { c.Props = c.Props[:n] }},
		{"kids", func(c *api.Concept, from, n int) {
			c.Kids = rowOf(n, func(i int) api.KidDef { return api.KidDef{Role: nth(from + i), Concept: "A"} })
		}, func(c *api.Concept, n int) { c.Kids = c.Kids[:n] }},
		{"references", func(c *api.Concept, from, n int) {
			c.Refs = rowOf(n, func(i int) api.RefDef { return api.RefDef{Role: nth(from + i), Concept: "A"} })
		}, func(c *api.Concept, n int) { c.Refs = c.Refs[:n] }},
	}
}

// P5.1: 32 of each kind among All, and one more, behind inheritance.
func TestManyParts(t *testing.T) {
	for _, k := range partKinds() {
		// Three concepts of two languages, the one below first, with so many parts each.
		of := func(c, b, a int) []api.Language {
			ls := languages(2)
			ls[0].Concepts = []api.Concept{{Name: "C", Super: "B"}, {Name: "B", Super: "A"}}
			ls[1].Concepts = []api.Concept{{Name: "A"}}
			k.put(&ls[1].Concepts[0], 0, a)
			k.put(&ls[0].Concepts[1], a, b)
			k.put(&ls[0].Concepts[0], a+b, c)
			return ls
		}
		full := func(at, part int) api.Fault { return api.Fault{In: 2, At: at, Part: part, Err: api.ErrFull} }
		tells(t, k.what+": 32 in all", of(2, 20, 10), api.Fault{})
		tells(t, k.what+": 32 own ones", of(32, 0, 0), api.Fault{})
		tells(t, k.what+": 32 of the farthest", of(0, 0, 32), api.Fault{})
		tells(t, k.what+": one more of the lowest", of(3, 20, 10), full(0, 3))
		tells(t, k.what+": many more of the lowest", of(20, 20, 10), full(0, 3))
		tells(t, k.what+": one more behind a full one", of(1, 0, 32), full(0, 1))
		tells(t, k.what+": one more of the one between", of(0, 1, 32), full(1, 1))
		tells(t, k.what+": the lowest is told ahead", of(1, 2, 31), full(0, 1))
		ls := of(3, 20, 10)
		k.put(&ls[0].Concepts[0], 28, 3)
		tells(t, k.what+": twice ahead of the one too many", ls, api.Fault{In: 2, Part: 1, Err: api.ErrTwice})
		ls = of(3, 20, 10)
		k.put(&ls[0].Concepts[0], 30, 2)
		k.put(&ls[1].Concepts[0], 40, 11)
		tells(t, k.what+": the one too many alone", ls, full(0, 2))
		k.put(&ls[0].Concepts[0], 49, 2)
		tells(t, k.what+": twice behind what is above", ls, api.Fault{In: 2, Part: 1, Err: api.ErrTwice})
		k.cut(&ls[0].Concepts[0], 0)
		tells(t, k.what+": none", ls, api.Fault{})
	}
	// Each kind by itself, one behind the other.
	ls := languages(1)
	ls[0].Concepts = []api.Concept{{Name: "B", Super: "A"}, {Name: "A"}}
	for _, k := range partKinds() {
		k.put(&ls[0].Concepts[0], 16, 16)
		k.put(&ls[0].Concepts[1], 0, 16)
	}
	tells(t, "32 of each kind", ls, api.Fault{})
	ls[0].Concepts[0].Refs = append(ls[0].Concepts[0].Refs, api.RefDef{Role: "n0", Concept: "none"})
	tells(t, "a reference more", ls, api.Fault{In: 2, Part: 49, Err: api.ErrFull})
	ls[0].Concepts[0].Kids = append(ls[0].Concepts[0].Kids, api.KidDef{Role: "n0", Concept: "none"})
	tells(t, "a kid more", ls, api.Fault{In: 2, Part: 33, Err: api.ErrFull})
	ls[0].Concepts[0].Props = append(ls[0].Concepts[0].Props, api.PropDef{Name: "n0", Type: 1})
	tells(t, "a property more", ls, api.Fault{In: 2, Part: 17, Err: api.ErrFull})
}

// chain are 128 concepts of so many languages, each below the next one.
func chain(n int) []api.Language {
	ls := languages(n)
	for i := range 128 {
		c := api.Concept{Name: nth(i), Super: nth(i + 1)}
		if i == 127 {
			c.Super = ""
		}
		ls[i%n].Concepts = append(ls[i%n].Concepts, c)
	}
	return ls
}

// P5.1, P5.3, P5.8: 128 concepts one above the other, and all of them in one ring.
func TestDeep(t *testing.T) {
	for _, n := range []int{1, 3, 128} {
		ls := chain(n)
		ls[127%n].Concepts[127/n].Props = []api.PropDef{{Name: "p", Type: 1}}
		ls[0].Editors = []api.Editor{{Concept: "n127"}}
		ls[0].Rules = []api.Rule{{Concept: "n127", Name: "ok"}, {Concept: "n0", Name: "ok"}}
		m := tells(t, "a chain", ls, api.Fault{})
		if !m.Below("n0", "n127") || m.Below("n127", "n0") {
			t.Error("Below of a chain's ends")
		}
		ls[63%n].Concepts[63/n].Props = []api.PropDef{{Name: "p", Type: 1}}
		tells(t, "a property at both ends", ls, api.Fault{In: 10*(63%n) + 2, At: 63 / n, Part: 1, Err: api.ErrTwice})
		ls[127%n].Concepts[127/n].Super = "n0"
		tells(t, "a ring of all", ls, api.Fault{In: 2, Err: api.ErrRing})
		ls[127%n].Concepts[127/n].Super = "n126"
		tells(t, "all below a ring of two", ls, api.Fault{In: 10*(126%n) + 2, At: 126 / n, Err: api.ErrRing})
	}
}

// P0.1: as much as may be is answered, and soon.
func TestGreat(t *testing.T) {
	ls := chain(128)
	for i := range ls {
		ls[i].Rules = rowOf(256, func(k int) api.Rule { return api.Rule{Concept: "n127", Name: nth(256*i + k)} })
		ls[i].Equations = rowOf(256, func(k int) api.Equation { return equation("n127", nth(k)) })
	}
	m, f := meta.New(ls)
	if f != (api.Fault{}) {
		t.Fatal(f)
	}
	rules, equations := m.Rules("n0"), m.Equations("n0")
	if len(rules) != 1<<15 || len(equations) != 1<<15 || rules[1<<15-1].Name != nth(1<<15-1) || equations[256].Right[0].Name != "n0" {
		t.Errorf("%d rules, %d equations", len(rules), len(equations))
	}
	ls[127].Rules[255].Name = "n5"
	if m, f := meta.New(ls); m != nil || f != (api.Fault{In: 1273, At: 255, Err: api.ErrTwice}) {
		t.Errorf("the last rule twice: %v", f)
	}
	ls = chain(1)
	for i := range ls[0].Concepts {
		k := partKinds()
		k[0].put(&ls[0].Concepts[i], 32*i, 32)
		k[1].put(&ls[0].Concepts[i], 32*i, 32)
		k[2].put(&ls[0].Concepts[i], 32*i, 32)
	}
	if m, f := meta.New(ls); m != nil || f != (api.Fault{In: 2, Part: 1, Err: api.ErrFull}) {
		t.Errorf("32 parts each: %v", f)
	}
}

// P5.3, P5.6: the first question, and all others, out of several hands at once.
func TestManyHands(t *testing.T) {
	ls := chain(3)
	for range 20 {
		m, _ := meta.New(ls)
		var all sync.WaitGroup
		for hand := range 8 {
			all.Add(1)
			go func() {
				defer all.Done()
				for i := range 500 {
					a, b := (i*7+hand)%128, (i*13)%128
					if m.Below(nth(a), nth(b)) != (a <= b) {
						t.Errorf("Below of %d and %d", a, b)
					}
				}
			}()
		}
		all.Wait()
		if m.Uses() != 4000 {
			t.Errorf("Uses %d", m.Uses())
		}
	}
}

// P5.6: each table counts by itself, and only what it was asked of Below.
func TestUses(t *testing.T) {
	m, _ := meta.New(both())
	n, _ := meta.New(both())
	for i := range 300 {
		m.Below("Neg", "Num")
		m.Below("none", "Num")
		for _, name := range []string{"Neg", "none"} {
			toldOf(m, name)
			toldOf(n, name)
		}
		if m.Uses() != 2*i+2 || n.Uses() != 0 {
			t.Fatalf("Uses %d and %d", m.Uses(), n.Uses())
		}
	}
}
