package conform

import (
	"slices"

	"topiary/api"
	"topiary/names"
)

// What the workbench itself wraps, and where, is no matter of the languages.
const (
	keptConcept = "?Kept"
	keptRole    = "?kept"
)

// A sight is a node that is looked at, its concept as the table has it, and what was told so far.
type sight struct {
	view
	node    *api.Node
	concept api.Concept
	marks   []api.Mark
}

// marksAt answers the marks at a node.
func (v view) marksAt(n *api.Node) []api.Mark {
	s := &sight{view: v, node: n}
	// Each look tells whether the next one is to be taken.
	looks := []func() bool{s.atKept, s.atConcept, s.atAbstract, s.atProps, s.atKids, s.atHoles, s.atRefs, s.atNeeds}
	for i := range len(looks) {
		if !looks[i]() {
			break
		}
	}
	return s.marks
}

func (s *sight) tell(name string, e api.Errno) {
	s.marks = append(s.marks, api.Mark{Node: s.node.ID, Name: name, Err: e})
}

func (s *sight) atKept() bool {
	for n := s.node; n != nil; n = s.find(n.Parent) {
		if n.Concept == keptConcept {
			return false
		}
	}
	return true
}

func (s *sight) atConcept() bool {
	c, ok := s.table.Concept(s.node.Concept)
	s.concept = c
	if !ok {
		s.tell(s.node.Concept, api.ErrConcept)
	}
	return ok
}

func (s *sight) atAbstract() bool {
	if s.concept.Abstract {
		s.tell(s.node.Concept, api.ErrAbstract)
	}
	return true
}

func (s *sight) atProps() bool {
	for _, p := range s.node.Props {
		i := slices.IndexFunc(s.concept.Props, func(d api.PropDef) bool { return d.Name == p.Name })
		if i < 0 || !names.Fits(s.concept.Props[i].Type, p.Value) {
			s.tell(p.Name, api.ErrProp)
		}
	}
	return true
}

func (s *sight) atKids() bool {
	ahead := map[string]int{}
	for _, id := range s.node.Kids {
		kid := s.find(id)
		if kid.Role == keptRole {
			continue
		}
		if e := s.kidError(kid, ahead[kid.Role]); e != api.OK {
			s.tell(kid.Role, e)
		}
		ahead[kid.Role]++
	}
	return true
}

// kidError answers what is wrong with a kid that has so many of its role ahead.
func (s *sight) kidError(kid *api.Node, ahead int) api.Errno {
	i := slices.IndexFunc(s.concept.Kids, func(d api.KidDef) bool { return d.Role == kid.Role })
	switch {
	case i < 0 || !s.table.Below(kid.Concept, s.concept.Kids[i].Concept):
		return api.ErrRole
	case s.concept.Kids[i].Max == 1 && ahead > 0:
		return api.ErrMany
	}
	return api.OK
}

func (s *sight) atHoles() bool {
	for _, d := range s.concept.Kids {
		if d.Min == 1 && !slices.ContainsFunc(s.node.Kids, func(id int) bool { return s.find(id).Role == d.Role }) {
			s.tell(d.Role, api.ErrHole)
		}
	}
	return true
}

func (s *sight) atRefs() bool {
	for _, r := range s.node.Refs {
		if e := s.refError(r); e != api.OK {
			s.tell(r.Role, e)
		}
	}
	return true
}

func (s *sight) refError(r api.Ref) api.Errno {
	i := slices.IndexFunc(s.concept.Refs, func(d api.RefDef) bool { return d.Role == r.Role })
	if i < 0 {
		return api.ErrRef
	}
	target := s.find(r.Target)
	switch {
	case target == nil:
		return api.ErrDangling
	case !s.table.Below(target.Concept, s.concept.Refs[i].Concept):
		return api.ErrRef
	}
	return api.OK
}

func (s *sight) atNeeds() bool {
	for _, d := range s.concept.Refs {
		if d.Need && !slices.ContainsFunc(s.node.Refs, func(r api.Ref) bool { return r.Role == d.Role }) {
			s.tell(d.Role, api.ErrNeed)
		}
	}
	return true
}
