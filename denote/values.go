package denote

import (
	"cmp"

	"topiary/api"
	"topiary/names"
)

func ofInt(n int64) api.Value   { return api.Value{Kind: api.VInt, Int: n} }
func ofText(s string) api.Value { return api.Value{Kind: api.VText, Text: s} }
func ofBool(b bool) api.Value   { return api.Value{Kind: api.VBool, Bool: b} }
func ofNode(id int) api.Value   { return api.Value{Kind: api.VNode, Node: id} }
func ofList(l []int) api.Value  { return api.Value{Kind: api.VList, List: l} }

func asInt(v api.Value) int64   { return must(v, api.VInt).Int }
func asText(v api.Value) string { return must(v, api.VText).Text }
func asBool(v api.Value) bool   { return must(v, api.VBool).Bool }
func asList(v api.Value) []int  { return must(v, api.VList).List }

// must answers the value, which must be of that kind.
func must(v api.Value, kind int) api.Value {
	if v.Kind != kind {
		fail(api.ErrKind)
	}
	return v
}

// ofTwo answers what a node of that Kind comes to whose two kids came to a and b.
func ofTwo(kind int, a, b api.Value) api.Value {
	switch kind {
	case api.EAdd:
		return together(a, b)
	case api.ESub:
		return ofInt(sub(asInt(a), asInt(b)))
	case api.EMul:
		return ofInt(mul(asInt(a), asInt(b)))
	case api.EEq:
		return ofBool(same(a, b))
	case api.ENe:
		return ofBool(!same(a, b))
	case api.ELt:
		return ofBool(order(a, b) < 0)
	}
	return ofBool(order(a, b) <= 0)
}

// together answers the sum of two ints, or two texts one behind the other.
func together(a, b api.Value) api.Value {
	if a.Kind != api.VText {
		return ofInt(add(asInt(a), asInt(b)))
	}
	if len(a.Text)+len(asText(b)) > api.MaxText {
		fail(api.ErrLong)
	}
	return ofText(a.Text + b.Text)
}

// same tells whether two values are; lists can't be held against each other.
func same(a, b api.Value) bool {
	if a.Kind == api.VList {
		fail(api.ErrKind)
	}
	must(b, a.Kind)
	return a.Int == b.Int && a.Text == b.Text && a.Bool == b.Bool && a.Node == b.Node
}

// order answers a number below 0, 0, or one above it, as the first one of two ints or texts is less, the same, or greater.
func order(a, b api.Value) int {
	if a.Kind == api.VText {
		return cmp.Compare(a.Text, asText(b))
	}
	return cmp.Compare(asInt(a), asInt(b))
}

func add(a, b int64) int64 {
	sum := a + b
	// It has wrapped round just if its sign is neither one's.
	if (a^sum)&(b^sum) < 0 {
		fail(api.ErrOver)
	}
	return sum
}

func sub(a, b int64) int64 {
	diff := a - b
	// It wraps round only where the signs are unlike, and then its sign is not that of a.
	if (a^b)&(a^diff) < 0 {
		fail(api.ErrOver)
	}
	return diff
}

func mul(a, b int64) int64 {
	if b == -1 {
		// Here a quotient would wrap round, too.
		return sub(0, a)
	}
	product := a * b
	if b != 0 && product/b != a {
		fail(api.ErrOver)
	}
	return product
}

// first answers the first node of a list, or none.
func first(l []int) int {
	if len(l) == 0 {
		return 0
	}
	return l[0]
}

// read answers the number of an int's text.
func read(s string) int64 {
	n, err := names.Int(s)
	if err != api.OK {
		fail(api.ErrTexts)
	}
	return n
}
