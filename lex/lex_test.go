package lex_test

import (
	"slices"
	"strings"
	"testing"

	"topiary/api"
	"topiary/lex"
)

var (
	wordList = []string{"and", "any", "concept", "else", "end", "every", "false", "first", "id", "if", "in", "int", "none", "not", "only", "or", "self", "size", "sum", "text", "then", "true"}
	markList = []string{".", "#", "->", "^", "?", "!!", "(", ")", "+", "-", "*", "==", "!=", "<", "<=", ":"}
)

func number(n int64, at int) api.Token { return api.Token{Kind: 1, Int: n, At: at} }
func quote(s string, at int) api.Token { return api.Token{Kind: 2, Text: s, At: at} }
func name(s string, at int) api.Token  { return api.Token{Kind: 3, Text: s, At: at} }
func word(s string, at int) api.Token  { return api.Token{Kind: 4, Text: s, At: at} }
func mark(s string, at int) api.Token  { return api.Token{Kind: 5, Text: s, At: at} }

// reads asks that the text has just those tokens.
func reads(t *testing.T, s string, want ...api.Token) {
	t.Helper()
	if l, at, e := lex.Scan(s); e != api.OK || at != 0 || !slices.Equal(l, want) {
		t.Fatalf("Scan(%.300q): %v, %d, %d; not %v", s, l, at, e, want)
	}
}

// refuses asks that Scan tells that error of the text, at that place, and nothing beside.
func refuses(t *testing.T, s string, e api.Errno, at int) {
	t.Helper()
	if l, place, told := lex.Scan(s); told != e || place != at || len(l) != 0 {
		t.Fatalf("Scan(%.300q): %v, %d, %d; not %d, %d", s, l, place, told, at, e)
	}
}

// wrongAt asks for ErrLex at that place.
func wrongAt(t *testing.T, s string, at int) {
	t.Helper()
	refuses(t, s, api.ErrLex, at)
}

// joins asks that the tokens make that text.
func joins(t *testing.T, want string, l ...api.Token) {
	t.Helper()
	if s, e := lex.Join(l); e != api.OK || s != want {
		t.Fatalf("Join(%.300v): %.300q, %d; not %.300q", l, s, e, want)
	}
}

// joinsNot asks that Join tells that error of the tokens, and nothing beside.
func joinsNot(t *testing.T, e api.Errno, l ...api.Token) {
	t.Helper()
	if s, told := lex.Join(l); told != e || s != "" {
		t.Fatalf("Join(%.300v): %.300q, %d; not %d", l, s, told, e)
	}
}

// The kinds are told by number in models of rules: they are the chapter's.
func TestKinds(t *testing.T) {
	if lex.Int != 1 || lex.Text != 2 || lex.Name != 3 || lex.Word != 4 || lex.Mark != 5 {
		t.Error("a kind has another number")
	}
}

// P7.1: the chapter's examples, and how tokens stand beside each other.
func TestScan(t *testing.T) {
	reads(t, "")
	reads(t, "\n")
	reads(t, " \n  \n")
	reads(t, "self.a->b", word("self", 0), mark(".", 4), name("a", 5), mark("->", 6), name("b", 8))
	reads(t, "0 -12\n", number(0, 0), mark("-", 2), number(12, 3))
	reads(t, `x!!A!="\n"`, name("x", 0), mark("!!", 1), name("A", 3), mark("!=", 4), quote("\n", 6))
	reads(t, "nota", name("nota", 0))
	reads(t, "not a", word("not", 0), name("a", 4))
	reads(t, "\n 0\n\n0 ", number(0, 2), number(0, 5))
	reads(t, `""""`, quote("", 0), quote("", 2))
	reads(t, `a"b"c"d"1"e"and`, name("a", 0), quote("b", 1), name("c", 4), quote("d", 5), number(1, 8), quote("e", 9), word("and", 12))
	reads(t, `"a b \" \\ \n \x00\xff"`, quote("a b \" \\ \n \x00\xff", 0))
	reads(t, "1.a#2", number(1, 0), mark(".", 1), name("a", 2), mark("#", 3), number(2, 4))
	reads(t, "-0", mark("-", 0), number(0, 1))
	reads(t, "A_0__z", name("A_0__z", 0))
}

// P7.1: each mark alone, and each behind each other one.
func TestMarks(t *testing.T) {
	for _, a := range markList {
		reads(t, a, mark(a, 0))
		reads(t, "a"+a+"1", name("a", 0), mark(a, 1), number(1, 1+len(a)))
		for _, b := range markList {
			reads(t, a+" "+b, mark(a, 0), mark(b, len(a)+1))
			if a != "<" || b != "==" {
				reads(t, a+b, mark(a, 0), mark(b, len(a)))
			}
		}
	}
	reads(t, "-->", mark("-", 0), mark("->", 1))
	reads(t, "<=<", mark("<=", 0), mark("<", 2))
	reads(t, "<===", mark("<=", 0), mark("==", 2))
	reads(t, "!!!=", mark("!!", 0), mark("!=", 2))
	reads(t, "====", mark("==", 0), mark("==", 2))
	reads(t, "->-", mark("->", 0), mark("-", 2))
}

// P7.1: marks that are none, and those that are cut.
func TestWrongMarks(t *testing.T) {
	wrongAt(t, "<==", 3)
	wrongAt(t, "<==a", 3)
	wrongAt(t, "<= =", 4)
	wrongAt(t, "< = =", 3)
	wrongAt(t, "- >", 2)
	wrongAt(t, "->>", 2)
	wrongAt(t, ">", 0)
	wrongAt(t, ">=", 0)
	wrongAt(t, "!", 1)
	wrongAt(t, "!!!", 3)
	wrongAt(t, "!a", 1)
	wrongAt(t, "! !", 1)
	wrongAt(t, "!\n", 1)
	wrongAt(t, "!\"\"", 1)
	wrongAt(t, "!<", 1)
	wrongAt(t, "=", 1)
	wrongAt(t, "===", 3)
	wrongAt(t, "= =", 1)
	wrongAt(t, "=!", 1)
	wrongAt(t, "a = b", 3)
	wrongAt(t, "a,b", 1)
}

// P7.1: of each byte, alone and behind a token of each kind, whether a token begins with it or goes on.
func TestEachByte(t *testing.T) {
	for b := range 256 {
		c := string([]byte{byte(b)})
		for _, ahead := range []string{"", "a", "and", "12", "0", `"a"`, `"a`, "-", "!", "=", "<", "a ", "\n"} {
			told(t, ahead+c)
			told(t, ahead+c+"b")
			told(t, ahead+c+c)
		}
	}
	for _, c := range []string{"\t", "\r", "\v", "\f", "\x00", "\x7f", "\xa0", "\xc2\xa0", "_", "'", "/", "%", "&", "|", ",", ";", "@", "[", "]", "{", "}", "~", "`", "$", "\\"} {
		wrongAt(t, c, 0)
		wrongAt(t, "a "+c, 2)
		wrongAt(t, "a."+c, 2)
	}
}

// P7.1: up to which number, and with which digits.
func TestInts(t *testing.T) {
	for _, n := range []int64{0, 1, 9, 10, 12, 1e18, 1<<63 - 2, 1<<63 - 1} {
		s := joined([]api.Token{number(n, 0)})
		reads(t, s, number(n, 0))
		reads(t, s+"."+s, number(n, 0), mark(".", len(s)), number(n, len(s)+1))
	}
	reads(t, "9223372036854775807:(", number(1<<63-1, 0), mark(":", 19), mark("(", 20))
	reads(t, "999999999999999999", number(999999999999999999, 0))
	wrongAt(t, "9223372036854775808", 18)
	wrongAt(t, "9999999999999999999", 18)
	wrongAt(t, "9300000000000000000", 18)
	wrongAt(t, "18446744073709551617", 19)
	wrongAt(t, "92233720368547758070", 19)
	wrongAt(t, "10000000000000000000", 19)
	wrongAt(t, "a -9223372036854775808", 21)
	wrongAt(t, "00", 1)
	wrongAt(t, "007", 1)
	wrongAt(t, "01", 1)
	wrongAt(t, "a-00", 3)
	wrongAt(t, "1a", 1)
	wrongAt(t, "12_", 2)
	wrongAt(t, "0x1", 1)
	wrongAt(t, "1e3", 1)
	wrongAt(t, "0and", 1)
	wrongAt(t, strings.Repeat("9", 4096), 18)
}

// P7.1: names up to their 32nd byte, and reserved words with more behind them.
func TestNames(t *testing.T) {
	for n := 1; n <= 32; n++ {
		s := strings.Repeat("b", n)
		reads(t, s, name(s, 0))
		reads(t, s+"#", name(s, 0), mark("#", n))
		reads(t, s+" c", name(s, 0), name("c", n+1))
	}
	full := strings.Repeat("A", 32)
	for _, more := range []string{"a", "Z", "1", "0", "_", "aa", "and", `a"`} {
		wrongAt(t, full+more, 32)
		wrongAt(t, " "+full+more, 33)
	}
	wrongAt(t, full+"\t", 32)
	reads(t, full+`""`, name(full, 0), quote("", 32))
	for _, w := range wordList {
		reads(t, w, word(w, 0))
		reads(t, w+"."+w+" "+w, word(w, 0), mark(".", len(w)), word(w, len(w)+1), word(w, 2*len(w)+2))
		for _, more := range []string{"x", "Z", "0", "_"} {
			reads(t, w+more, name(w+more, 0))
		}
		up := strings.ToUpper(w[:1]) + w[1:]
		reads(t, up, name(up, 0))
	}
	for _, s := range []string{"i", "o", "an", "nt", "tru", "els", "intint", "inn", "xor", "is", "let", "null", "kids"} {
		reads(t, s, name(s, 0))
	}
	wrongAt(t, "_a", 0)
	wrongAt(t, "a _", 2)
	wrongAt(t, "\u00e9", 0)
	wrongAt(t, "a\u00e9", 1)
}

// P7.1: texts in quotes that are refused, and that end too early.
func TestTexts(t *testing.T) {
	for _, c := range []struct {
		s  string
		at int
	}{
		{`"`, 1}, {`"a`, 2}, {`"a\`, 3}, {`"a\"`, 4}, {`"\x`, 3}, {`"\x0`, 4}, {`"\x00`, 5}, {`"""`, 3}, {`a "b" "`, 7}, {`"a b`, 4},
		{`"\q"`, 2}, {`"\x4"`, 3}, {`"\x0g"`, 4}, {`"\x0a"`, 4}, {`"\x70"`, 4}, {`"\xFF"`, 3}, {"\"\t\"", 1}, {"\"\n\"", 1}, {"\"a\xff\"", 2}, {`a.b "\t"`, 6}, {`"a""\q"`, 5}, {`'a'`, 0},
	} {
		wrongAt(t, c.s, c.at)
	}
	for a := range 256 {
		s := string([]byte{byte(a), 'a', byte(a)})
		reads(t, " "+quoted(s), quote(s, 1))
	}
}

// P7.2: the chapter's examples, each kind, and each field that must be zero.
func TestJoin(t *testing.T) {
	joins(t, "")
	joins(t, `12 -> "a"`, number(12, 0), mark("->", 0), quote("a", 0))
	joins(t, `"" "\n\"\\\x00\xff" "a b"`, quote("", 0), quote("\n\"\\\x00\xff", 0), quote("a b", 0))
	joins(t, "0 9223372036854775807", number(0, 0), number(1<<63-1, 0))
	joins(t, "< <= - -> !!", mark("<", 0), mark("<=", 0), mark("-", 0), mark("->", 0), mark("!!", 0))
	for _, w := range wordList {
		joins(t, "a "+w+" "+w, name("a", 3), word(w, -1), word(w, 1<<40))
		joinsNot(t, api.ErrArg, name(w, 0))
		joinsNot(t, api.ErrArg, word(w+"x", 0))
		joinsNot(t, api.ErrArg, mark(w, 0))
	}
	for _, m := range markList {
		joins(t, m, mark(m, 0))
		joinsNot(t, api.ErrArg, name(m, 0))
		joinsNot(t, api.ErrArg, word(m, 0))
		for _, s := range []string{m + " ", " " + m, m + m, m + "a"} {
			joinsNot(t, api.ErrArg, mark(s, 0))
		}
	}
	for _, k := range []api.Token{number(1, 0), quote("a", 0), name("a", 0), word("and", 0), mark("-", 0)} {
		for _, at := range []int{-1 << 63, -1, 0, 1, 1<<63 - 1} {
			k.At = at
			joins(t, joined([]api.Token{k}), k)
		}
	}
}

// P7.2: tokens that may not be, each by itself, ahead of others and behind them.
func TestJoinOfNone(t *testing.T) {
	full := strings.Repeat("a", 32)
	joins(t, full, name(full, 0))
	for _, k := range []api.Token{
		{}, {Kind: 6, Text: "a"}, {Kind: -1}, {Kind: 0, Text: "a"}, {Kind: 257, Int: 1}, {Kind: -1 << 63}, {Kind: 1<<63 - 1},
		number(-1, 0), number(-1<<63, 0), {Kind: 1, Int: 1, Text: "1"}, {Kind: 1, Text: "0"},
		{Kind: 2, Text: "a", Int: 1}, {Kind: 2, Int: -1},
		name("", 0), name("not", 0), name("1", 0), name("_a", 0), name("?a", 0), name("a b", 0), name("a\n", 0), name(full+"a", 0), name("\u00e9", 0), {Kind: 3, Text: "a", Int: 1},
		word("", 0), word("a", 0), word("And", 0), word("and ", 0), {Kind: 4, Text: "and", Int: 1}, {Kind: 4, Text: "and", Int: -1},
		mark("", 0), mark("a", 0), mark("=", 0), mark("!", 0), mark(">", 0), mark("<==", 0), mark(",", 0), mark("\"", 0), {Kind: 5, Text: "-", Int: 1},
	} {
		joinsNot(t, api.ErrArg, k)
		joinsNot(t, api.ErrArg, k, number(1, 0))
		joinsNot(t, api.ErrArg, name("a", 0), k)
		joinsNot(t, api.ErrArg, name("a", 0), k, quote("a", 0))
	}
}
