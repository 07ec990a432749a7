package lex_test

import (
	"math/rand/v2"
	"regexp"
	"strconv"
	"strings"

	"topiary/api"
	"topiary/lex"
)

// The chapter's words, written once more, by shapes and as slowly as one likes, so that the tests hold the package against something else than itself.

var (
	pieceShape = regexp.MustCompile(`^(?:(\w+)|("(?:[ !#-\[\]-~]|\\["\\n]|\\x(?:0[0-9b-f]|1[0-9a-f]|7f|[89a-f][0-9a-f]))*")|(->|!!|==|!=|<=|[.#^?()+*<:-]))`)
	nameShape  = regexp.MustCompile(`^[A-Za-z][A-Za-z0-9_]{0,31}$`)
	wordShape  = regexp.MustCompile(`^(?:and|any|concept|else|end|every|false|first|id|if|in|int|none|not|only|or|self|size|sum|text|then|true)$`)
	intShape   = regexp.MustCompile(`^(?:0|[1-9][0-9]*)$`)
	markShape  = regexp.MustCompile(`^(?:\.|#|->|\^|\?|!!|\(|\)|\+|-|\*|==|!=|<|<=|:)$`)
)

// tokensOf are the text's tokens, however long it is; or it has none.
func tokensOf(s string) (l []api.Token, ok bool) {
	for at := 0; at < len(s); {
		if s[at] == 32 || s[at] == 10 {
			at++
			continue
		}
		f := pieceShape.FindStringSubmatch(s[at:])
		if f == nil {
			return nil, false
		}
		k, ok := tokenOf(f[1], f[2], f[3])
		if !ok {
			return nil, false
		}
		k.At = at
		l = append(l, k)
		at += len(f[0])
	}
	return l, true
}

// tokenOf is the token of letters, digits and '_' as far as they go, of a text in quotes, or of a mark.
func tokenOf(run, quoted, mark string) (api.Token, bool) {
	switch {
	case mark != "":
		return api.Token{Kind: lex.Mark, Text: mark}, true
	case quoted != "":
		// Of Go's forms the chapter has just those that mean the same.
		s, err := strconv.Unquote(quoted)
		return api.Token{Kind: lex.Text, Text: s}, err == nil
	case wordShape.MatchString(run):
		return api.Token{Kind: lex.Word, Text: run}, true
	case nameShape.MatchString(run):
		return api.Token{Kind: lex.Name, Text: run}, true
	}
	n, err := strconv.ParseInt(run, 10, 64)
	return api.Token{Kind: lex.Int, Int: n}, err == nil && intShape.MatchString(run)
}

// tails are bytes of which some make any text that goes on one that has tokens.
var tails = []string{"", "=", "!", `"`, `""`, `00"`, `0"`, `f"`}

// goesOn tells whether, with some bytes behind it, the text has tokens.
func goesOn(s string) bool {
	for _, tail := range tails {
		if _, ok := tokensOf(s + tail); ok {
			return true
		}
	}
	return false
}

// firstWrong is the place that is told of a text without tokens.
func firstWrong(s string) int {
	for i := range len(s) {
		if !goesOn(s[:i+1]) {
			return i
		}
	}
	return len(s)
}

// may tells whether the token may be.
func may(k api.Token) bool {
	k.At = 0
	switch s := k.Text; k {
	case api.Token{Kind: 1, Int: k.Int}:
		return k.Int >= 0
	case api.Token{Kind: 2, Text: s}:
		return true
	case api.Token{Kind: 3, Text: s}:
		return nameShape.MatchString(s) && !wordShape.MatchString(s)
	case api.Token{Kind: 4, Text: s}:
		return wordShape.MatchString(s)
	case api.Token{Kind: 5, Text: s}:
		return markShape.MatchString(s)
	}
	return false
}

// joined is the text of tokens that may be, however long.
func joined(l []api.Token) string {
	var out []string
	for _, k := range l {
		switch k.Kind {
		case lex.Int:
			out = append(out, strconv.FormatInt(k.Int, 10))
		case lex.Text:
			out = append(out, quoted(k.Text))
		default:
			out = append(out, k.Text)
		}
	}
	return strings.Join(out, " ")
}

func quoted(s string) string {
	const digits = "0123456789abcdef"
	q := []byte{'"'}
	for i := range len(s) {
		switch b := s[i]; {
		case b == '"' || b == '\\':
			q = append(q, '\\', b)
		case b == 10:
			q = append(q, `\n`...)
		case 32 <= b && b <= 126:
			q = append(q, b)
		default:
			q = append(q, '\\', 'x', digits[b/16], digits[b%16])
		}
	}
	return string(append(q, '"'))
}

// A dice throws the same on every run.
type dice struct{ *rand.Rand }

func newDice(seed uint64) dice { return dice{rand.New(rand.NewPCG(seed, 7))} }

func (d dice) of(l ...string) string { return l[d.IntN(len(l))] }

// token is one that may be.
func (d dice) token() api.Token {
	switch kind := 1 + d.IntN(5); kind {
	case lex.Int:
		return api.Token{Kind: kind, Int: d.Int64() >> d.IntN(63)}
	case lex.Text:
		return api.Token{Kind: kind, Text: d.bytes(d.IntN(6))}
	case lex.Name:
		return api.Token{Kind: kind, Text: d.of("a", "Z9", "b_", "nota", "Not", "i", "ors", "x7f", strings.Repeat("n", 32))}
	case lex.Word:
		return api.Token{Kind: kind, Text: d.of(wordList...)}
	default:
		return api.Token{Kind: kind, Text: d.of(markList...)}
	}
}

// any is a token of any kind: most may not be.
func (d dice) any() api.Token {
	k := d.token()
	k.At = d.IntN(5) - 2
	switch d.IntN(6) {
	case 0:
		k.Kind = d.IntN(8) - 1
	case 1:
		k.Int = int64(d.IntN(3) - 1)
	case 2:
		k.Text = d.of("", "a", "and", "an", "=", "<", "_", "0", "\n", "?a", strings.Repeat("n", 33))
	}
	return k
}

func (d dice) bytes(n int) string {
	b := make([]byte, n)
	for i := range b {
		b[i] = byte(d.IntN(256))
		if d.IntN(2) == 0 {
			b[i] = d.of("a", "\"", "\\", "\n", " ", "=", "\x00", "\x7f", "\xff")[0]
		}
	}
	return string(b)
}

func (d dice) blanks(n int) string {
	s := ""
	for range n {
		s += d.of(" ", "\n")
	}
	return s
}

// text is tokens, blanks and bytes of any kind, some of them.
func (d dice) text() string {
	s := ""
	for range d.IntN(12) {
		switch d.IntN(12) {
		case 0:
			s += d.bytes(1)
		case 1:
			s += d.of("=", "!", "\\", "\"", "0", "9", "_", "a", ">", "&", "9223372036854775807", "-")
		case 2, 3, 4, 5:
			s += d.blanks(1)
		default:
			s += joined([]api.Token{d.token()})
		}
	}
	return s
}
