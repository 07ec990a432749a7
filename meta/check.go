package meta

import (
	"slices"

	"topiary/api"
	"topiary/lang"
)

// A fault's In is the number of the language, so many times, and the list of its definition.
const inEach = 10

// The lists of a definition, as chapter 4 tells them.
const (
	inConcepts = iota + 2
	inRules
	inEquations
	inEditors
	inTemplates
)

// each goes through a list, and answers the first fault that one answers of an element.
func each[E any](l []E, one func(i int, x E) api.Fault) api.Fault {
	for i, x := range l {
		if f := one(i, x); f.Err != api.OK {
			return f
		}
	}
	return api.Fault{}
}

// fault is the error at its place; it is none if that is OK.
func fault(in, at, part int, e api.Errno) api.Fault {
	return api.Fault{In: in, At: at, Part: part, Err: e}
}

// eachConcept goes through the concepts of all languages.
func eachConcept(ls []api.Language, one func(in, at int, c api.Concept) api.Fault) api.Fault {
	return each(ls, func(i int, l api.Language) api.Fault {
		return each(l.Concepts, func(at int, c api.Concept) api.Fault { return one(inEach*i+inConcepts, at, c) })
	})
}

func few(ls []api.Language) api.Fault {
	if len(ls) > api.MaxConcepts {
		return fault(inEach*api.MaxConcepts, 0, 0, api.ErrFull)
	}
	return api.Fault{}
}

func sound(ls []api.Language) api.Fault {
	return each(ls, func(i int, l api.Language) api.Fault {
		f := lang.Check(l)
		return fault(inEach*i+f.In, f.At, f.Part, f.Err)
	})
}

func apart(ls []api.Language) api.Fault {
	return each(ls, func(i int, l api.Language) api.Fault {
		if slices.ContainsFunc(ls[:i], func(x api.Language) bool { return x.Name == l.Name }) {
			return fault(inEach*i, 0, 0, api.ErrTwice)
		}
		return api.Fault{}
	})
}

// takeConcepts takes the concepts of all languages into an empty tower.
func (t *tower) takeConcepts(ls []api.Language) api.Fault {
	f := eachConcept(ls, func(in, at int, c api.Concept) api.Fault {
		if len(t.concepts) == api.MaxConcepts {
			return fault(in, at, 0, api.ErrFull)
		}
		if slices.ContainsFunc(t.concepts, func(x concept) bool { return x.def.Name == c.Name }) {
			return fault(in, at, 0, api.ErrTwice)
		}
		t.concepts = append(t.concepts, concept{def: ownConcept(c), lang: ls[in/inEach].Name})
		return api.Fault{}
	})
	t.sort()
	return f
}

func (t *tower) checkSupers(ls []api.Language) api.Fault {
	return eachConcept(ls, func(in, at int, c api.Concept) api.Fault {
		if c.Super != "" && t.find(c.Super) == none {
			return fault(in, at, 0, api.ErrUnknown)
		}
		if t.ringed(t.find(c.Name)) {
			return fault(in, at, 0, api.ErrRing)
		}
		return api.Fault{}
	})
}

// A part is a property, a kid or a reference: its name, and the concept of what may be there, if that is a node.
type part struct{ name, concept string }

// A kind answers a concept's own parts of one kind.
type kind func(c *concept) []part

func props(c *concept) []part {
	return turned(c.def.Props, func(p api.PropDef) part { return part{name: p.Name} })
}

func kids(c *concept) []part {
	return turned(c.def.Kids, func(k api.KidDef) part { return part{k.Role, k.Concept} })
}

func refs(c *concept) []part {
	return turned(c.def.Refs, func(r api.RefDef) part { return part{r.Role, r.Concept} })
}

func turned[E any](l []E, turn func(x E) part) []part {
	out := make([]part, len(l))
	for i, x := range l {
		out[i] = turn(x)
	}
	return out
}

func (t *tower) checkParts(ls []api.Language) api.Fault {
	return eachConcept(ls, func(in, at int, def api.Concept) api.Fault {
		c := &t.concepts[t.find(def.Name)]
		number := 0
		return each([]kind{props, kids, refs}, func(_ int, of kind) api.Fault {
			ahead := gather(t, c.super, of)
			return each(of(c), func(_ int, p part) api.Fault {
				number++
				e := t.partError(ahead, p)
				ahead = append(ahead, p)
				return fault(in, at, number, e)
			})
		})
	})
}

// partError answers what is wrong with a part that has those of its kind ahead.
func (t *tower) partError(ahead []part, p part) api.Errno {
	switch {
	case len(ahead) >= api.MaxParts:
		return api.ErrFull
	case named(ahead, p.name):
		return api.ErrTwice
	case p.concept != "" && t.find(p.concept) == none:
		return api.ErrUnknown
	}
	return api.OK
}

func named(l []part, name string) bool {
	return slices.ContainsFunc(l, func(p part) bool { return p.name == name })
}

// takeRest takes what the languages tell of their concepts beside them.
func (t *tower) takeRest(ls []api.Language) api.Fault {
	seen := map[api.Rule]struct{}{}
	return each(ls, func(i int, l api.Language) api.Fault {
		in := inEach * i
		faults := []api.Fault{
			each(l.Rules, func(at int, r api.Rule) api.Fault { return fault(in+inRules, at, 0, t.takeRule(r, seen)) }),
			each(l.Equations, func(at int, q api.Equation) api.Fault { return fault(in+inEquations, at, 0, t.takeEquation(q)) }),
			each(l.Editors, func(at int, e api.Editor) api.Fault { return fault(in+inEditors, at, 0, t.takeEditor(e)) }),
			each(l.Templates, func(at int, e api.Template) api.Fault { return fault(in+inTemplates, at, 0, t.takeTemplate(e)) }),
		}
		return each(faults, func(_ int, f api.Fault) api.Fault { return f })
	})
}

// takeRule gives a rule to its concept, and answers what is wrong with it; seen are those taken, without their expressions.
func (t *tower) takeRule(r api.Rule, seen map[api.Rule]struct{}) api.Errno {
	at := t.find(r.Concept)
	if at == none || r.Scope && !named(gather(t, at, refs), r.Name) {
		return api.ErrUnknown
	}
	like := api.Rule{Concept: r.Concept, Name: r.Name, Scope: r.Scope}
	if _, ok := seen[like]; ok {
		return api.ErrTwice
	}
	seen[like] = struct{}{}
	c := &t.concepts[at]
	if r.Scope {
		c.scopes = append(c.scopes, r)
	} else {
		c.rules = append(c.rules, r)
	}
	return api.OK
}

func (t *tower) takeEquation(q api.Equation) api.Errno {
	at := t.find(q.Concept)
	if at == none {
		return api.ErrUnknown
	}
	c := &t.concepts[at]
	c.equations = append(c.equations, ownEquation(q))
	return api.OK
}

func (t *tower) takeEditor(e api.Editor) api.Errno {
	at := t.find(e.Concept)
	if at == none {
		return api.ErrUnknown
	}
	c := &t.concepts[at]
	if c.editor != nil {
		return api.ErrTwice
	}
	c.editor = &api.Editor{Concept: e.Concept, Cells: own(e.Cells)}
	return api.OK
}

func (t *tower) takeTemplate(e api.Template) api.Errno {
	at := t.find(e.Concept)
	if at == none {
		return api.ErrUnknown
	}
	c := &t.concepts[at]
	if c.template != nil {
		return api.ErrTwice
	}
	c.template = &api.Template{Concept: e.Concept, Pieces: own(e.Pieces)}
	return api.OK
}
