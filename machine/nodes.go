package machine

import (
	"slices"

	"topiary/api"
)

// ofNode answers the action that does something with a node of the model, and with the name that the instruction has.
func (x *run) ofNode(do func(at *api.Node, name string) api.Errno) action {
	return func(n *api.Ins, v api.Value) api.Errno {
		at := x.find(v.Node)
		if at == nil {
			return api.ErrNone
		}
		return do(at, n.Text)
	}
}

func (x *run) prop(at *api.Node, name string) api.Errno {
	p := seek(at.Props, name, func(p *api.Prop) string { return p.Name })
	if p == nil {
		return x.put(ofText(""))
	}
	return x.put(ofText(p.Value))
}

func (x *run) kidsIn(at *api.Node, role string) api.Errno { return x.put(ofList(x.inRole(at, role))) }

func (x *run) ref(at *api.Node, role string) api.Errno {
	r := seek(at.Refs, role, func(r *api.Ref) string { return r.Role })
	if r == nil || x.find(r.Target) == nil {
		return x.put(ofNode(0))
	}
	return x.put(ofNode(r.Target))
}

func (x *run) parent(at *api.Node, _ string) api.Errno { return x.put(ofNode(at.Parent)) }

func (x *run) is(at *api.Node, concept string) api.Errno {
	return x.put(ofBool(x.table.Below(at.Concept, concept)))
}

// all puts those below a node whose concept is that one, or below it. At each visit a step is asked for.
func (x *run) all(top *api.Node, concept string) api.Errno {
	var found []int
	// The next one to be visited stands last.
	ahead := backward(top.Kids)
	for len(ahead) > 0 {
		if err := x.ask(1); err != api.OK {
			return err
		}
		n := x.find(ahead[len(ahead)-1])
		ahead = append(ahead[:len(ahead)-1], backward(n.Kids)...)
		if x.table.Below(n.Concept, concept) {
			found = append(found, n.ID)
		}
	}
	return x.put(ofList(found))
}

func backward(l []int) []int {
	l = slices.Clone(l)
	slices.Reverse(l)
	return l
}

func (x *run) concept(at *api.Node, _ string) api.Errno { return x.put(ofText(at.Concept)) }

func (x *run) id(at *api.Node, _ string) api.Errno { return x.put(ofInt(int64(at.ID))) }
