package expr

import "topiary/api"

// The levels of the grammar, each one tighter than those ahead of it.
const (
	orLevel = iota + 1
	andLevel
	notLevel
	cmpLevel
	sumLevel
	prodLevel
	postLevel
	primLevel
)

// The shapes in which expressions stand in a text.
const (
	literal = iota // a token that says all of it: an int, a text, a name
	word           // its word
	call           // its word, and the kid in brackets
	choice         // its word, and each kid with a further word behind it
	loop           // its word, a name, and each kid between further signs
	step           // its mark behind the kid, a name perhaps behind that
	prefix         // its word ahead of the kid
	pair           // its mark between the kids
	row            // its mark or word between the kids, of which the first may be of the same level
)

// A sign is the mark or the word that stands for a Kind; and in which shape, how tight, with so many kids, and whether with a name.
type sign struct {
	text  string
	shape int
	level int
	kids  int
	named bool
}

// signs are the signs by their Kinds. No mark and no word stands twice at one level.
var signs = [...]sign{
	api.EInt:     {"", literal, primLevel, 0, false},
	api.EText:    {"", literal, primLevel, 0, false},
	api.ETrue:    {"true", word, primLevel, 0, false},
	api.EFalse:   {"false", word, primLevel, 0, false},
	api.ESelf:    {"self", word, primLevel, 0, false},
	api.ENone:    {"none", word, primLevel, 0, false},
	api.EVar:     {"", literal, primLevel, 0, true},
	api.EProp:    {".", step, postLevel, 1, true},
	api.EKids:    {"#", step, postLevel, 1, true},
	api.ERef:     {"->", step, postLevel, 1, true},
	api.EParent:  {"^", step, postLevel, 1, false},
	api.EIs:      {"?", step, postLevel, 1, true},
	api.EAll:     {"!!", step, postLevel, 1, true},
	api.ESize:    {"size", call, primLevel, 1, false},
	api.EFirst:   {"first", call, primLevel, 1, false},
	api.EShow:    {"text", call, primLevel, 1, false},
	api.EConcept: {"concept", call, primLevel, 1, false},
	api.EID:      {"id", call, primLevel, 1, false},
	api.ERead:    {"int", call, primLevel, 1, false},
	api.EAdd:     {"+", row, sumLevel, 2, false},
	api.ESub:     {"-", row, sumLevel, 2, false},
	api.EMul:     {"*", row, prodLevel, 2, false},
	api.EEq:      {"==", pair, cmpLevel, 2, false},
	api.ENe:      {"!=", pair, cmpLevel, 2, false},
	api.ELt:      {"<", pair, cmpLevel, 2, false},
	api.ELe:      {"<=", pair, cmpLevel, 2, false},
	api.EAnd:     {"and", row, andLevel, 2, false},
	api.EOr:      {"or", row, orLevel, 2, false},
	api.ENot:     {"not", prefix, notLevel, 1, false},
	api.EIf:      {"if", choice, primLevel, 3, false},
	api.EAny:     {"any", loop, primLevel, 2, true},
	api.EEvery:   {"every", loop, primLevel, 2, true},
	api.EOnly:    {"only", loop, primLevel, 2, true},
	api.ESum:     {"sum", loop, primLevel, 2, true},
}

// kindAt answers the Kind for which a mark or a word stands at a level of the grammar.
func kindAt(level int, text string) (int, bool) {
	for kind := range signs {
		if signs[kind].level == level && signs[kind].text == text {
			return kind, true
		}
	}
	return 0, false
}
