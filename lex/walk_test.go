package lex_test

import (
	"slices"
	"testing"

	"topiary/api"
	"topiary/lex"
)

// alike holds tokens against each other but for At.
func alike(a, b []api.Token) bool {
	return slices.EqualFunc(a, b, func(a, b api.Token) bool {
		a.At, b.At = 0, 0
		return a == b
	})
}

// told asks all that the chapter says of one text that is not too long, and tells whether it has tokens.
func told(t *testing.T, s string) bool {
	t.Helper()
	want, ok := tokensOf(s)
	if ok {
		reads(t, s, want...)
		isJoined(t, want)
		return true
	}
	at := firstWrong(s)
	wrongAt(t, s, at)
	isFirst(t, s, at)
	return false
}

// isJoined asks P7.2 of tokens that may be, and P7.3.
func isJoined(t *testing.T, l []api.Token) {
	t.Helper()
	want := joined(l)
	if len(want) > 4096 {
		joinsNot(t, api.ErrLong, l...)
		return
	}
	joins(t, want, l...)
	if again, at, e := lex.Scan(want); e != api.OK || at != 0 || !alike(again, l) {
		t.Fatalf("Scan of Join of %v: %v, %d, %d", l, again, at, e)
	}
}

// isFirst asks P7.4, and that the byte at the place is the first wrong one, of Scan alone.
func isFirst(t *testing.T, s string, at int) {
	t.Helper()
	begun := s[:at]
	if _, end, e := lex.Scan(begun); e != api.OK && (e != api.ErrLex || end != at) {
		t.Fatalf("Scan(%q), which %q begins with: %d, %d", begun, s, end, e)
	}
	if !hasSomeTail(begun) {
		t.Fatalf("Scan(%q): with nothing behind it it has tokens", begun)
	}
	if at < len(s) && hasSomeTail(s[:at+1]) {
		t.Fatalf("Scan(%q): it goes on behind %d", s, at)
	}
}

func hasSomeTail(s string) bool {
	return slices.ContainsFunc(tails, func(tail string) bool {
		_, _, e := lex.Scan(s + tail)
		return e == api.OK
	})
}

// P7.1, P7.4: all texts of a few bytes, of those that tokens begin with and go on with.
func TestAllShortTexts(t *testing.T) {
	count := map[bool]int{}
	var grow func(s, letters string, n int)
	grow = func(s, letters string, n int) {
		count[told(t, s)]++
		if n == 0 {
			return
		}
		for _, b := range []byte(letters) {
			grow(s+string([]byte{b}), letters, n-1)
		}
	}
	grow("", "-><=!. \na_01\"\\xq&", 4)
	grow("", "!=<->", 6)
	grow("", "\"\\x07n ", 5)
	grow("i", "nt f", 4)
	grow("922337203685477580", "0789a ", 3)
	if count[true] < 5000 || count[false] < 5000 {
		t.Errorf("%v", count)
	}
}

// P7.1 to P7.4: texts thrown out of tokens, blanks and bytes of any kind.
func TestThrownTexts(t *testing.T) {
	count := map[bool]int{}
	for seed := range uint64(12000) {
		count[told(t, newDice(seed).text())]++
	}
	// Throws that come past hardly anything would hold for nothing.
	if count[true] < 3000 || count[false] < 3000 {
		t.Errorf("%v", count)
	}
}

// P7.1, P7.4: texts that have tokens, with a byte more, a byte less, another byte, cut and turned.
func TestBytes(t *testing.T) {
	for _, whole := range []string{
		"any x in self#item: x.v < -3 end", `if a!!Num->to^?Sum then "a\n\"\x00" else 10 * (b + 0)`, "not a==b and c!=d or e<=9223372036854775807", "size(first(none)) - int(text(id(concept(self))))",
	} {
		for i := range whole {
			told(t, whole[:i])
			told(t, whole[i:])
			told(t, whole[:i]+whole[i+1:])
			told(t, whole[:i]+whole[i:i+1]+whole[i:])
			for _, b := range []byte("\n .=!<>-\"\\_05xnAz\t\x00\xff") {
				told(t, whole[:i]+string([]byte{b})+whole[i:])
				told(t, whole[:i]+string([]byte{b})+whole[i+1:])
			}
		}
	}
}

// P7.2, P7.3: tokens of any kind, of which most lists have some that may not be.
func TestThrownTokens(t *testing.T) {
	count := map[bool]int{}
	for seed := range uint64(12000) {
		d := newDice(seed + 50000)
		l := make([]api.Token, d.IntN(8))
		one := d.token
		if d.IntN(2) == 0 {
			one = d.any
		}
		for i := range l {
			l[i] = one()
		}
		ok := !slices.ContainsFunc(l, func(k api.Token) bool { return !may(k) })
		count[ok]++
		if ok {
			isJoined(t, l)
		} else {
			joinsNot(t, api.ErrArg, l...)
		}
	}
	if count[true] < 3000 || count[false] < 3000 {
		t.Errorf("%v", count)
	}
}

// P7.5: more blanks, wherever blanks may stand.
func TestMoreBlanks(t *testing.T) {
	texts := 0
	for seed := range uint64(4000) {
		d := newDice(seed + 100000)
		s := d.text()
		l, _, e := lex.Scan(s)
		if e != api.OK {
			continue
		}
		texts++
		more, from := "", 0
		var want []api.Token
		for _, k := range l {
			more += s[from:k.At] + d.blanks(d.IntN(4))
			from, k.At = k.At, len(more)
			want = append(want, k)
		}
		reads(t, more+s[from:]+d.blanks(d.IntN(4)), want...)
	}
	if texts < 1000 {
		t.Errorf("%d texts", texts)
	}
}

// P7.5: two texts, with a blank between them.
func TestTwoTexts(t *testing.T) {
	pairs := 0
	for seed := range uint64(12000) {
		d := newDice(seed + 200000)
		a, b := d.text(), d.text()
		la, _, ea := lex.Scan(a)
		lb, _, eb := lex.Scan(b)
		if ea != api.OK || eb != api.OK {
			continue
		}
		pairs++
		for i := range lb {
			lb[i].At += len(a) + 1
		}
		reads(t, a+d.blanks(1)+b, append(la, lb...)...)
	}
	if pairs < 1000 {
		t.Errorf("%d pairs", pairs)
	}
}
