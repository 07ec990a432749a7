package kinds

import (
	"math/bits"

	"topiary/api"
)

// A set is one of kinds of values, a bit each.
type set uint8

const (
	anInt  set = 1 << api.VInt
	aText  set = 1 << api.VText
	aBool  set = 1 << api.VBool
	aNode  set = 1 << api.VNode
	aList  set = 1 << api.VList
	inARow     = anInt | aText          // of two of these one may be less
	alone      = inARow | aBool | aNode // two of these may be the same
	all        = alone | aList
)

// A row tells the kind of a node, then the kinds that its kids must have. Sets of several kinds in one row mean the same one of them.
type row [4]set

// rows are the rows by their Kinds. A set of several kinds stands for what is made only where it stands for a kid too.
var rows = [...]row{
	api.EInt:     {anInt},
	api.EText:    {aText},
	api.ETrue:    {aBool},
	api.EFalse:   {aBool},
	api.ESelf:    {aNode},
	api.ENone:    {aNode},
	api.EVar:     {aNode},
	api.EProp:    {aText, aNode},
	api.EKids:    {aList, aNode},
	api.ERef:     {aNode, aNode},
	api.EParent:  {aNode, aNode},
	api.EIs:      {aBool, aNode},
	api.EAll:     {aList, aNode},
	api.ESize:    {anInt, aList},
	api.EFirst:   {aNode, aList},
	api.EShow:    {aText, anInt},
	api.EConcept: {aText, aNode},
	api.EID:      {anInt, aNode},
	api.ERead:    {anInt, aText},
	api.EAdd:     {inARow, inARow, inARow},
	api.ESub:     {anInt, anInt, anInt},
	api.EMul:     {anInt, anInt, anInt},
	api.EEq:      {aBool, alone, alone},
	api.ENe:      {aBool, alone, alone},
	api.ELt:      {aBool, inARow, inARow},
	api.ELe:      {aBool, inARow, inARow},
	api.EAnd:     {aBool, aBool, aBool},
	api.EOr:      {aBool, aBool, aBool},
	api.ENot:     {aBool, aBool},
	api.EIf:      {all, aBool, all, all},
	api.EAny:     {aBool, aList, aBool},
	api.EEvery:   {aBool, aList, aBool},
	api.EOnly:    {aList, aList, aBool},
	api.ESum:     {anInt, aList, anInt},
}

// kindOf answers a node's kind, if it has one; those of its kids are known.
func kindOf(n api.ENode, known []int) (int, bool) {
	r := rows[n.Kind]
	meant := all // what the sets of several kinds can still mean
	for i, kid := range n.Kids {
		takes := r[i+1]
		fits := takes & (1 << known[kid])
		if takes.several() {
			meant &= fits
			fits = meant
		}
		if fits == 0 {
			return 0, false
		}
	}
	if r[0].several() {
		return meant.first(), true
	}
	return r[0].first(), true
}

// several tells whether there is more than one kind in a set.
func (s set) several() bool { return bits.OnesCount8(uint8(s)) > 1 }

// first answers the first kind of a set.
func (s set) first() int { return bits.TrailingZeros8(uint8(s)) }
