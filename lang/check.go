package lang

import (
	"slices"

	"topiary/api"
	"topiary/names"
)

// The lists of a definition, as a fault's In tells them.
const (
	inOwn = iota
	inUses
	inConcepts
	inRules
	inEquations
	inEditors
	inTemplates
)

// The last kinds of a side's elements, of cells and of pieces; the first ones are 1.
const (
	sideKinds  = 5
	cellKinds  = 6
	pieceKinds = 5
)

// The kinds of a side's elements that may have what the others may not: see chapter 16.
const (
	ownHole = 1
	kidHole = 2
	term    = 4
)

// A wrong is the fault that is thrown.
type wrong api.Fault

// A place tells where the element with that number is, Err being OK.
type place func(i int) api.Fault

// elements are the places of one of the definition's lists.
func elements(in int) place {
	return func(i int) api.Fault { return api.Fault{In: in, At: i} }
}

// parts are the places of a list within an element, behind so many other parts of it.
func parts(in, at, ahead int) place {
	return func(i int) api.Fault { return api.Fault{In: in, At: at, Part: ahead + i + 1} }
}

func throw(f api.Fault, e api.Errno) {
	f.Err = e
	panic(wrong(f))
}

// each goes through a list, and throws the first error that one answers of an element. How many elements may be is asked at the first one too many, not ahead of all: so a fault of an element hangs on nothing that stands behind it.
func each[E any](l []E, most int, where place, one func(i int, x E) api.Errno) {
	for i, x := range l {
		if i == most {
			throw(where(i), api.ErrFull)
		}
		if e := one(i, x); e != api.OK {
			throw(where(i), e)
		}
	}
}

// named answers the error of an element's words, which must be names; else that of its having one ahead that is like it.
func named[E any](ahead []E, like func(x E) bool, words ...string) api.Errno {
	for _, w := range words {
		if !names.Right(w) {
			return api.ErrArg
		}
	}
	if slices.ContainsFunc(ahead, like) {
		return api.ErrTwice
	}
	return api.OK
}

func checkOwn(l api.Language) {
	where := elements(inOwn)
	if !names.Right(l.Name) {
		throw(where(0), api.ErrArg)
	}
	if l.Version < 1 {
		throw(where(1), api.ErrArg)
	}
}

func checkUses(l api.Language) {
	each(l.Uses, api.MaxUses, elements(inUses), func(i int, use string) api.Errno {
		if e := named(l.Uses[:i], func(x string) bool { return x == use }, use); e != api.OK {
			return e
		}
		if use == l.Name {
			return api.ErrTwice
		}
		return api.OK
	})
}

func checkConcepts(l []api.Concept) {
	each(l, api.MaxConcepts, elements(inConcepts), func(i int, c api.Concept) api.Errno {
		if e := named(l[:i], func(x api.Concept) bool { return x.Name == c.Name }, c.Name); e != api.OK {
			return e
		}
		if c.Super != "" && !names.Right(c.Super) {
			return api.ErrArg
		}
		if c.Super == c.Name {
			return api.ErrRing
		}
		checkProps(c.Props, parts(inConcepts, i, 0))
		checkKids(c.Kids, parts(inConcepts, i, len(c.Props)))
		checkRefs(c.Refs, parts(inConcepts, i, len(c.Props)+len(c.Kids)))
		return api.OK
	})
}

func checkProps(l []api.PropDef, where place) {
	each(l, api.MaxParts, where, func(i int, p api.PropDef) api.Errno {
		if e := named(l[:i], func(x api.PropDef) bool { return x.Name == p.Name }, p.Name); e != api.OK {
			return e
		}
		if !within(p.Type, api.Text, api.Name) {
			return api.ErrType
		}
		return api.OK
	})
}

func checkKids(l []api.KidDef, where place) {
	each(l, api.MaxParts, where, func(i int, k api.KidDef) api.Errno {
		if e := named(l[:i], func(x api.KidDef) bool { return x.Role == k.Role }, k.Role, k.Concept); e != api.OK {
			return e
		}
		if !within(k.Min, 0, 1) || !within(k.Max, 0, 1) {
			return api.ErrCard
		}
		return api.OK
	})
}

func checkRefs(l []api.RefDef, where place) {
	each(l, api.MaxParts, where, func(i int, r api.RefDef) api.Errno {
		return named(l[:i], func(x api.RefDef) bool { return x.Role == r.Role }, r.Role, r.Concept)
	})
}

func checkRules(l []api.Rule) {
	each(l, api.MaxRules, elements(inRules), func(i int, r api.Rule) api.Errno {
		like := func(x api.Rule) bool { return x.Concept == r.Concept && x.Name == r.Name && x.Scope == r.Scope }
		if e := named(l[:i], like, r.Concept, r.Name); e != api.OK {
			return e
		}
		if len(r.Expr) > api.MaxText {
			return api.ErrLong
		}
		return api.OK
	})
}

func checkEquations(l []api.Equation) {
	each(l, api.MaxRules, elements(inEquations), func(i int, q api.Equation) api.Errno {
		if !names.Right(q.Concept) {
			return api.ErrArg
		}
		sides := [][]api.Side{q.Left, q.Right}
		each(sides, len(sides), parts(inEquations, i, 0), func(_ int, s []api.Side) api.Errno { return sideError(s) })
		return api.OK
	})
}

func sideError(l []api.Side) api.Errno {
	if len(l) > api.MaxRow {
		return api.ErrFull
	}
	if slices.ContainsFunc(l, func(s api.Side) bool { return !sound(s) }) || !Tree(l) {
		return api.ErrArg
	}
	return api.OK
}

// sound tells whether an element of a side may be, whatever stands around it.
func sound(s api.Side) bool {
	spelt := names.Right(s.Name)
	if s.Kind == ownHole {
		spelt = s.Name == ""
	}
	return within(s.Kind, 1, sideKinds) && spelt &&
		(s.Num == 0 || s.Num > 0 && s.Kind == kidHole) &&
		(len(s.Args) == 0 || s.Kind == term)
}

// checkRows goes through editors, or through templates: whose they are, and their rows, are what open answers of one.
func checkRows[E any, C api.Cell | api.Piece](in, kinds int, l []E, open func(x E) (string, []C)) {
	each(l, api.MaxRules, elements(in), func(i int, x E) api.Errno {
		concept, row := open(x)
		like := func(x E) bool {
			c, _ := open(x)
			return c == concept
		}
		if e := named(l[:i], like, concept); e != api.OK {
			return e
		}
		where := parts(in, i, 0)
		// A row is a part of one element: how long it may be is asked ahead of all that is in it.
		if len(row) > api.MaxRow {
			throw(where(api.MaxRow), api.ErrFull)
		}
		each(row, len(row), where, func(_ int, x C) api.Errno { return cellError(api.Cell(x), kinds) })
		return api.OK
	})
}

// cellError answers the error of a cell, or of a piece, which has the same fields.
func cellError(c api.Cell, kinds int) api.Errno {
	if !within(c.Kind, 1, kinds) {
		return api.ErrArg
	}
	if len(c.Text)+len(c.Mark) > api.MaxText {
		return api.ErrLong
	}
	return api.OK
}

func within(n, least, most int) bool { return least <= n && n <= most }
