package code

import "topiary/api"

// words are the instructions' words, by their Ops.
var words = [...]string{
	OpStep: "step", OpInt: "int", OpText: "text", OpTrue: "true", OpFalse: "false", OpSelf: "self", OpNone: "none", OpLoad: "load", OpFree: "free",
	OpProp: "prop", OpKids: "kids", OpRef: "ref", OpParent: "parent", OpIs: "is", OpAll: "all",
	OpSize: "size", OpFirst: "first", OpShow: "show", OpConcept: "concept", OpId: "id", OpRead: "read",
	OpAdd: "add", OpSub: "sub", OpMul: "mul", OpEq: "eq", OpNe: "ne", OpLt: "lt", OpLe: "le",
	OpNot: "not", OpAnd: "and", OpOr: "or", OpTruth: "truth", OpUnless: "unless", OpJump: "jump",
	OpAny: "any", OpEvery: "every", OpOnly: "only", OpSum: "sum", OpNext: "next", OpTake: "take",
}

// What an instruction has.
const (
	nothing = iota
	count   // Arg: 1 or above
	number  // Arg: 0 or above; a place is one
	anInt   // Int
	aText   // Text: at most MaxText bytes
	aName   // Text: a name
)

// A shape is what an instruction has; how many values it takes, and how many it puts where it leads to the place behind it.
type shape struct {
	has   int
	takes int
	puts  int
}

// shapes are the instructions' shapes, by their Ops.
var shapes = [...]shape{
	OpStep:    {count, 0, 0},
	OpInt:     {anInt, 0, 1},
	OpText:    {aText, 0, 1},
	OpTrue:    {nothing, 0, 1},
	OpFalse:   {nothing, 0, 1},
	OpSelf:    {nothing, 0, 1},
	OpNone:    {nothing, 0, 1},
	OpLoad:    {number, 0, 1},
	OpFree:    {nothing, 0, 1},
	OpProp:    {aName, 1, 1},
	OpKids:    {aName, 1, 1},
	OpRef:     {aName, 1, 1},
	OpParent:  {nothing, 1, 1},
	OpIs:      {aName, 1, 1},
	OpAll:     {aName, 1, 1},
	OpSize:    {nothing, 1, 1},
	OpFirst:   {nothing, 1, 1},
	OpShow:    {nothing, 1, 1},
	OpConcept: {nothing, 1, 1},
	OpId:      {nothing, 1, 1},
	OpRead:    {nothing, 1, 1},
	OpAdd:     {nothing, 2, 1},
	OpSub:     {nothing, 2, 1},
	OpMul:     {nothing, 2, 1},
	OpEq:      {nothing, 2, 1},
	OpNe:      {nothing, 2, 1},
	OpLt:      {nothing, 2, 1},
	OpLe:      {nothing, 2, 1},
	OpNot:     {nothing, 1, 1},
	OpAnd:     {number, 1, 0},
	OpOr:      {number, 1, 0},
	OpTruth:   {nothing, 1, 1},
	OpUnless:  {number, 1, 0},
	OpJump:    {number, 0, 0},
	OpAny:     {nothing, 1, 0},
	OpEvery:   {nothing, 1, 0},
	OpOnly:    {nothing, 1, 0},
	OpSum:     {nothing, 1, 0},
	OpNext:    {number, 0, 0},
	OpTake:    {number, 1, 0},
}

// ops are the Ops by the Kinds of expressions. A variable's hangs on the loops around it, and what chooses has none of its own.
var ops = [...]int{
	api.EInt: OpInt, api.EText: OpText, api.ETrue: OpTrue, api.EFalse: OpFalse, api.ESelf: OpSelf, api.ENone: OpNone,
	api.EProp: OpProp, api.EKids: OpKids, api.ERef: OpRef, api.EParent: OpParent, api.EIs: OpIs, api.EAll: OpAll,
	api.ESize: OpSize, api.EFirst: OpFirst, api.EShow: OpShow, api.EConcept: OpConcept, api.EID: OpId, api.ERead: OpRead,
	api.EAdd: OpAdd, api.ESub: OpSub, api.EMul: OpMul, api.EEq: OpEq, api.ENe: OpNe, api.ELt: OpLt, api.ELe: OpLe,
	api.EAnd: OpAnd, api.EOr: OpOr, api.ENot: OpNot,
	api.EAny: OpAny, api.EEvery: OpEvery, api.EOnly: OpOnly, api.ESum: OpSum,
}
