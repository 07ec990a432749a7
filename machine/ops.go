package machine

import (
	"topiary/api"
	"topiary/names"
)

func (x *run) steps(n *api.Ins, _ api.Value) api.Errno { return x.ask(n.Arg) }

func (x *run) anInt(n *api.Ins, _ api.Value) api.Errno { return x.put(ofInt(n.Int)) }

func (x *run) aText(n *api.Ins, _ api.Value) api.Errno { return x.put(ofText(n.Text)) }

func (x *run) yes(*api.Ins, api.Value) api.Errno { return x.put(ofBool(true)) }

func (x *run) no(*api.Ins, api.Value) api.Errno { return x.put(ofBool(false)) }

func (x *run) itself(*api.Ins, api.Value) api.Errno { return x.put(ofNode(x.self)) }

func (x *run) none(*api.Ins, api.Value) api.Errno { return x.put(ofNode(0)) }

func (x *run) free(*api.Ins, api.Value) api.Errno { return api.ErrVar }

func (x *run) size(_ *api.Ins, v api.Value) api.Errno { return x.put(ofInt(int64(len(v.List)))) }

func (x *run) first(_ *api.Ins, v api.Value) api.Errno {
	if len(v.List) == 0 {
		return x.put(ofNode(0))
	}
	return x.put(ofNode(v.List[0]))
}

func (x *run) show(_ *api.Ins, v api.Value) api.Errno { return x.put(ofText(names.Show(v.Int))) }

func (x *run) read(_ *api.Ins, v api.Value) api.Errno {
	n, err := names.Int(v.Text)
	if err != api.OK {
		return api.ErrTexts
	}
	return x.put(ofInt(n))
}

func (x *run) not(_ *api.Ins, v api.Value) api.Errno { return x.put(ofBool(!v.Bool)) }

func (x *run) truth(_ *api.Ins, v api.Value) api.Errno { return x.put(v) }

func (x *run) and(n *api.Ins, v api.Value) api.Errno { return x.settles(false, n, v) }

func (x *run) or(n *api.Ins, v api.Value) api.Errno { return x.settles(true, n, v) }

// settles puts the bool again, and goes on elsewhere, if it is the one that settles the whole.
func (x *run) settles(which bool, n *api.Ins, v api.Value) api.Errno {
	if v.Bool != which {
		return api.OK
	}
	x.at = n.Arg
	return x.put(v)
}

func (x *run) unless(n *api.Ins, v api.Value) api.Errno {
	if !v.Bool {
		x.at = n.Arg
	}
	return api.OK
}

func (x *run) jump(n *api.Ins, _ api.Value) api.Errno {
	x.at = n.Arg
	return api.OK
}

// ofTwo answers the action that takes two values, and puts what they come to.
func (x *run) ofTwo(tell pairing) action {
	return func(*api.Ins, api.Value) api.Errno {
		b := x.pop()
		a := x.pop()
		v, err := tell(a, b)
		if err != api.OK {
			return err
		}
		return x.put(v)
	}
}
