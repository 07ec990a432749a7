package lex

import (
	"topiary/api"
	"topiary/names"
)

// A reader reads a text's tokens.
type reader struct {
	text string
	// far tells how far what stands at a place goes on being right, byte by byte.
	far func(at int, right func(s string) bool) int
}

func newReader(text string) reader {
	return reader{text, func(at int, right func(s string) bool) int {
		to := at
		for to < len(text) && right(text[at:to+1]) {
			to++
		}
		return to
	}}
}

// pastBlanks answers the place of the first byte from a place on that is no blank.
func (r reader) pastBlanks(at int) int {
	for at < len(r.text) && (r.text[at] == ' ' || r.text[at] == '\n') {
		at++
	}
	return at
}

// token reads the token at a place, its At left out: it, and the place behind it; or false, and the place of the first wrong byte.
func (r reader) token(at int) (api.Token, int, bool) {
	if to := r.far(at, names.Right); to > at {
		return named(r.text[at:to]), to, r.apart(to)
	}
	if to := r.far(at, digits); to > at {
		n, _ := names.Int(r.text[at:to])
		return api.Token{Kind: Int, Int: n}, to, r.apart(to)
	}
	if r.text[at] == '"' {
		text, to, e := names.Unquote(r.text, at)
		return api.Token{Kind: Text, Text: text}, to, e == api.OK
	}
	mark, begun := markAhead(r.text[at:])
	if mark == "" {
		return api.Token{}, at + begun, false
	}
	return api.Token{Kind: Mark, Text: mark}, at + len(mark), true
}

// apart tells whether no letter, digit or '_' stands at the place.
func (r reader) apart(at int) bool {
	// With just those a name of one letter goes on.
	return at == len(r.text) || !names.Right("a"+r.text[at:at+1])
}

// digits tells whether the text is an int's. One with '-' ahead is never come to: its first byte by itself is none.
func digits(s string) bool {
	_, e := names.Int(s)
	return e == api.OK
}

// named answers the token of a name, in memory of its own: a piece of the text would keep the whole that was handed in.
func named(s string) api.Token {
	kind := Name
	if reserved(s) {
		kind = Word
	}
	return api.Token{Kind: kind, Text: string([]byte(s))}
}
