package machine

import (
	"cmp"
	"math"

	"topiary/api"
)

func ofInt(n int64) api.Value { return api.Value{Kind: api.VInt, Int: n} }

func ofText(s string) api.Value { return api.Value{Kind: api.VText, Text: s} }

func ofBool(b bool) api.Value { return api.Value{Kind: api.VBool, Bool: b} }

func ofNode(id int) api.Value { return api.Value{Kind: api.VNode, Node: id} }

func ofList(l []int) api.Value { return api.Value{Kind: api.VList, List: l} }

// A pairing tells what two values come to.
type pairing func(a, b api.Value) (api.Value, api.Errno)

// together answers the sum of two ints, or two texts one behind the other.
func together(a, b api.Value) (api.Value, api.Errno) {
	if a.Kind != api.VText || b.Kind != api.VText {
		return ofInts(add)(a, b)
	}
	if len(a.Text)+len(b.Text) > api.MaxText {
		return api.Value{}, api.ErrLong
	}
	return ofText(a.Text + b.Text), api.OK
}

// ofInts answers the pairing of two ints to a third one, if that is one of 64 bits.
func ofInts(third func(a, b int64) (int64, bool)) pairing {
	return func(a, b api.Value) (api.Value, api.Errno) {
		if a.Kind != api.VInt || b.Kind != api.VInt {
			return api.Value{}, api.ErrKind
		}
		n, ok := third(a.Int, b.Int)
		if !ok {
			return api.Value{}, api.ErrOver
		}
		return ofInt(n), api.OK
	}
}

func add(a, b int64) (int64, bool) {
	n := a + b
	return n, (n > a) == (b > 0)
}

func sub(a, b int64) (int64, bool) {
	n := a - b
	return n, (n < a) == (b > 0)
}

func mul(a, b int64) (int64, bool) {
	// Here the product wraps round, and so does the quotient that is to prove it.
	if a == -1 && b == math.MinInt64 {
		return 0, false
	}
	n := a * b
	return n, a == 0 || n/a == b
}

// alike answers the pairing that tells true of two values that are the same, or false of them; lists can't be held against each other.
func alike(told bool) pairing {
	return func(a, b api.Value) (api.Value, api.Errno) {
		if a.Kind != b.Kind || a.Kind == api.VList {
			return api.Value{}, api.ErrKind
		}
		same := a.Int == b.Int && a.Text == b.Text && a.Bool == b.Bool && a.Node == b.Node
		return ofBool(same == told), api.OK
	}
}

// ordered answers the pairing that tells whether the first one of two ints, or texts, held against the second one, comes to that number at most: to -1 if it is less, to 0 if it is the same.
func ordered(most int) pairing {
	return func(a, b api.Value) (api.Value, api.Errno) {
		if a.Kind != b.Kind || a.Kind != api.VInt && a.Kind != api.VText {
			return api.Value{}, api.ErrKind
		}
		return ofBool(cmp.Or(cmp.Compare(a.Int, b.Int), cmp.Compare(a.Text, b.Text)) <= most), api.OK
	}
}
