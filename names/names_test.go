package names_test

import (
	"math"
	"regexp"
	"strings"
	"testing"

	"topiary/api"
	"topiary/names"
)

// The chapter's words, written once more, so that the tests hold the package against something else than itself.
var (
	nameShape   = regexp.MustCompile(`^[A-Za-z][A-Za-z0-9_]{0,31}$`)
	furtherByte = regexp.MustCompile(`[A-Za-z0-9_]$`)
	intShape    = regexp.MustCompile(`^(0|-?[1-9][0-9]*)$`)
	forms       = `(?:[ !#-\[\]-~]|\\["\\n]|\\x(?:0[0-9b-f]|1[0-9a-f]|7f|[89a-f][0-9a-f]))*`
	quoteAhead  = regexp.MustCompile(`^"` + forms + `"`)
	quoteBegun  = regexp.MustCompile(`^(?:"` + forms + `(?:\\(?:x[0178-9a-f]?)?|")?)?$`)
)

// each calls f with all texts of the letters of at most n bytes.
func each(letters string, n int, f func(s string)) {
	var grow func(s string)
	grow = func(s string) {
		f(s)
		if len(s) == n {
			return
		}
		for i := range len(letters) {
			grow(s + letters[i:i+1])
		}
	}
	grow("")
}

// P1.1: lengths, the first byte and the further ones.
func TestRightAndOwn(t *testing.T) {
	for n := range 70 {
		s := strings.Repeat("a", n)
		if names.Right(s) != (1 <= n && n <= 32) {
			t.Errorf("Right of %d bytes: %v", n, names.Right(s))
		}
		if names.Own("?"+s) != (1 <= n && n <= 32) {
			t.Errorf("Own of %d bytes behind '?': %v", n, names.Own("?"+s))
		}
	}
	for b := range 256 {
		c := string([]byte{byte(b)})
		for _, s := range []string{c, "a" + c, c + "a", "a" + c + "a", strings.Repeat("a", 31) + c} {
			if names.Right(s) != nameShape.MatchString(s) || names.Own(s) != (s[0] == '?' && nameShape.MatchString(s[1:])) {
				t.Errorf("%q: Right %v, Own %v", s, names.Right(s), names.Own(s))
			}
			if names.Own("?"+s) != nameShape.MatchString(s) || names.Right("?"+s) {
				t.Errorf("%q: Right %v, Own %v", "?"+s, names.Right("?"+s), names.Own("?"+s))
			}
		}
	}
	for _, s := range []string{"", "?", "??a", "a\n", "\xc3\xa9", "a\xc3\xa9", strings.Repeat("a", 1<<20)} {
		if names.Right(s) || names.Own(s) {
			t.Errorf("%.20q: Right %v, Own %v", s, names.Right(s), names.Own(s))
		}
	}
}

// P1.2
func TestFits(t *testing.T) {
	for _, c := range []struct {
		t  int
		s  string
		is bool
	}{
		{api.Text, "", true}, {api.Text, strings.Repeat("\xff", 4096), true}, {api.Text, strings.Repeat("a", 4097), false},
		{api.Int, "0", true}, {api.Int, "-12", true}, {api.Int, "-0", false}, {api.Int, "007", false}, {api.Int, "", false}, {api.Int, "9223372036854775807", true}, {api.Int, "9223372036854775808", false}, {api.Int, "-9223372036854775808", true}, {api.Int, "-9223372036854775809", false},
		{api.Bool, "true", true}, {api.Bool, "false", true}, {api.Bool, "True", false}, {api.Bool, "1", false}, {api.Bool, "", false}, {api.Bool, "true ", false},
		{api.Name, "a", true}, {api.Name, strings.Repeat("a", 32), true}, {api.Name, strings.Repeat("a", 33), false}, {api.Name, "?a", false}, {api.Name, "", false}, {api.Name, "9", false},
	} {
		if names.Fits(c.t, c.s) != c.is {
			t.Errorf("Fits(%d, %.30q): not %v", c.t, c.s, c.is)
		}
	}
	for _, none := range []int{0, -1, 5, 6, 257, math.MinInt, math.MaxInt} {
		for _, s := range []string{"", "a", "1", "true"} {
			if names.Fits(none, s) {
				t.Errorf("Fits(%d, %q)", none, s)
			}
		}
	}
}

// P1.3: the bounds, and what is just past them.
func TestInt(t *testing.T) {
	for _, c := range []struct {
		s string
		n int64
	}{
		{"0", 0}, {"7", 7}, {"-5", -5}, {"10", 10}, {"-120", -120}, {"9223372036854775807", math.MaxInt64}, {"9223372036854775806", math.MaxInt64 - 1}, {"-9223372036854775808", math.MinInt64}, {"-9223372036854775807", math.MinInt64 + 1},
	} {
		if n, e := names.Int(c.s); n != c.n || e != api.OK {
			t.Errorf("Int(%q): %d, %d", c.s, n, e)
		}
		if s := names.Show(c.n); s != c.s {
			t.Errorf("Show(%d): %q", c.n, s)
		}
	}
	for _, s := range []string{"", "-", "--1", "+1", "+0", "-0", "00", "007", "-07", " 1", "1 ", "1\n", "1_0", "0x1", "1e3", "1.0", "a", "9223372036854775808", "-9223372036854775809", "18446744073709551616", "99999999999999999999", "\xd9\xa1", strings.Repeat("9", 1<<16), strings.Repeat("0", 1<<16)} {
		if n, e := names.Int(s); n != 0 || e != api.ErrArg {
			t.Errorf("Int(%.30q): %d, %d", s, n, e)
		}
	}
	each("0179-+_ ", 4, func(s string) {
		if _, e := names.Int(s); (e == api.OK) != intShape.MatchString(s) {
			t.Errorf("Int(%q): %d", s, e)
		}
	})
}

// form is a byte's form, as the chapter words it.
func form(b byte) string {
	switch {
	case b == '"':
		return `\"`
	case b == '\\':
		return `\\`
	case b == 10:
		return `\n`
	case 32 <= b && b <= 126:
		return string(rune(b))
	}
	const digits = "0123456789abcdef"
	return `\x` + string(digits[b/16]) + string(digits[b%16])
}

// P1.4
func TestQuote(t *testing.T) {
	if q := names.Quote(""); q != `""` {
		t.Errorf("Quote of nothing: %s", q)
	}
	if q := names.Quote("a\"\n\x00\xff"); q != `"a\"\n\x00\xff"` {
		t.Errorf("Quote: %s", q)
	}
	for b := range 256 {
		if q := names.Quote(string([]byte{byte(b)})); q != `"`+form(byte(b))+`"` {
			t.Errorf("Quote of byte %d: %s", b, q)
		}
	}
	if q := names.Quote("\u00e9"); q != `"\xc3\xa9"` {
		t.Errorf("Quote goes byte by byte: %s", q)
	}
	const n = 1 << 20
	if q := names.Quote(strings.Repeat("a\x00", n)); q != `"`+strings.Repeat(`a\x00`, n)+`"` {
		t.Errorf("Quote of %d bytes", 2*n)
	}
}

// P1.5: the edges, one by one.
func TestUnquote(t *testing.T) {
	for _, c := range []struct {
		s    string
		at   int
		text string
		to   int
		e    api.Errno
	}{
		{`"a\n"b`, 0, "a\n", 5, api.OK}, {`x""`, 1, "", 3, api.OK}, {`"a""b"`, 3, "b", 6, api.OK}, {`"a"`, 2, "", 3, api.ErrEscape}, {`"\""`, 2, "", 4, api.OK}, {`"\"\\"`, 0, `"\`, 6, api.OK},
		{`"\x00\x09\x0b\x0f\x1f\x7f\x80\xff"`, 0, "\x00\x09\x0b\x0f\x1f\x7f\x80\xff", 34, api.OK},
		{"", -1, "", 0, api.ErrArg}, {"", 1, "", 0, api.ErrArg}, {`""`, -1, "", 0, api.ErrArg}, {`""`, 3, "", 0, api.ErrArg}, {`""`, math.MinInt, "", 0, api.ErrArg}, {`""`, math.MaxInt, "", 0, api.ErrArg},
		{"", 0, "", 0, api.ErrEscape}, {`""`, 2, "", 2, api.ErrEscape}, {"a", 0, "", 0, api.ErrEscape}, {`'a'`, 0, "", 0, api.ErrEscape},
		{`"`, 0, "", 1, api.ErrEscape}, {`"a`, 0, "", 2, api.ErrEscape}, {`"a\`, 0, "", 3, api.ErrEscape}, {`"a\"`, 0, "", 4, api.ErrEscape}, {`"\x`, 0, "", 3, api.ErrEscape}, {`"\x0`, 0, "", 4, api.ErrEscape}, {`"\x7`, 0, "", 4, api.ErrEscape}, {`"\x7f`, 0, "", 5, api.ErrEscape},
		{`"\q"`, 0, "", 2, api.ErrEscape}, {`"\N"`, 0, "", 2, api.ErrEscape}, {`"\t"`, 0, "", 2, api.ErrEscape}, {`"\X00"`, 0, "", 2, api.ErrEscape},
		{`"\x4"`, 0, "", 3, api.ErrEscape}, {`"\x41"`, 0, "", 3, api.ErrEscape}, {`"\x2`, 0, "", 3, api.ErrEscape}, {`"\x6f"`, 0, "", 3, api.ErrEscape}, {`"\xg0"`, 0, "", 3, api.ErrEscape}, {`"\x"`, 0, "", 3, api.ErrEscape}, {`"\xFF"`, 0, "", 3, api.ErrEscape},
		{`"\x0g"`, 0, "", 4, api.ErrEscape}, {`"\x0a"`, 0, "", 4, api.ErrEscape}, {`"\x0A"`, 0, "", 4, api.ErrEscape}, {`"\x0"`, 0, "", 4, api.ErrEscape}, {`"\x70"`, 0, "", 4, api.ErrEscape}, {`"\x7e"`, 0, "", 4, api.ErrEscape}, {`"\x1F"`, 0, "", 4, api.ErrEscape},
		{"\"\t\"", 0, "", 1, api.ErrEscape}, {"\"\n\"", 0, "", 1, api.ErrEscape}, {"\"\x00\"", 0, "", 1, api.ErrEscape}, {"\"a\x7f\"", 0, "", 2, api.ErrEscape}, {"\"\xff\"", 0, "", 1, api.ErrEscape}, {"\"\u00e9\"", 0, "", 1, api.ErrEscape},
	} {
		if s, to, e := names.Unquote(c.s, c.at); s != c.text || to != c.to || e != c.e {
			t.Errorf("Unquote(%q, %d): %q, %d, %d", c.s, c.at, s, to, e)
		}
	}
}

// P1.4, P1.5: of the 256 forms by number just those are read that Quote writes.
func TestUnquoteNumbers(t *testing.T) {
	const digits = "0123456789abcdef"
	for b := range 256 {
		f := `\x` + string(digits[b/16]) + string(digits[b%16])
		s, _, e := names.Unquote(`"`+f+`"`, 0)
		if right := form(byte(b)) == f; (e == api.OK) != right || right && s != string([]byte{byte(b)}) {
			t.Errorf("Unquote of %s: %q, %d", f, s, e)
		}
	}
}

// P1.6
func TestThereAndBack(t *testing.T) {
	for _, n := range []int64{0, 1, -1, 9, 10, -10, 1e18, math.MaxInt64, math.MinInt64} {
		for d := int64(-300); d <= 300; d++ {
			if m, e := names.Int(names.Show(n + d)); m != n+d || e != api.OK {
				t.Errorf("Int of Show(%d): %d, %d", n+d, m, e)
			}
		}
	}
	each("0123-", 5, func(s string) {
		if n, e := names.Int(s); e == api.OK && names.Show(n) != s {
			t.Errorf("Show of Int(%q): %q", s, names.Show(n))
		}
	})
	for a := range 256 {
		for b := range 256 {
			text := string([]byte{byte(a), byte(b)})
			q := names.Quote(text)
			for _, around := range [][2]string{{"", ""}, {`"\`, `"`}, {"\n\xff", "\\x\x00"}} {
				at := len(around[0])
				if s, to, e := names.Unquote(around[0]+q+around[1], at); s != text || to != at+len(q) || e != api.OK {
					t.Fatalf("Unquote of %s within %q: %q, %d, %d", q, around, s, to, e)
				}
			}
		}
	}
	long := strings.Repeat("a\"\\\n\x00\x7f\xff", 1<<16)
	if s, to, e := names.Unquote(names.Quote(long), 0); s != long || to != len(names.Quote(long)) || e != api.OK {
		t.Errorf("Unquote of a long text: %d bytes, %d, %d", len(s), to, e)
	}
}

// tails are bytes of which some end every text in quotes that is begun.
var tails = []string{`"`, `""`, `"""`, `00"`, `0"`, `f"`}

// P1.5 to P1.7, at all short texts: what begins with a text in quotes is read as far as that goes; in all else the place told is the first one at which no such text is begun any more.
func TestFirstWrongByte(t *testing.T) {
	each("\"\\nx017faF\n ", 5, func(tail string) {
		whole := `"` + tail
		for at := range 2 {
			checkUnquote(t, whole, at)
		}
	})
}

func checkUnquote(t *testing.T, whole string, at int) {
	s, to, e := names.Unquote(whole, at)
	from := whole[at:]
	if q := quoteAhead.FindString(from); q != "" {
		if e != api.OK || to != at+len(q) || names.Quote(s) != q {
			t.Fatalf("Unquote(%q, %d): %q, %d, %d", whole, at, s, to, e)
		}
		return
	}
	if e != api.ErrEscape || s != "" || to < at || to > len(whole) {
		t.Fatalf("Unquote(%q, %d): %q, %d, %d", whole, at, s, to, e)
	}
	if !quoteBegun.MatchString(whole[at:to]) || to < len(whole) && quoteBegun.MatchString(whole[at:to+1]) {
		t.Fatalf("Unquote(%q, %d): %d is not the first wrong byte", whole, at, to)
	}
	begun := whole[:to]
	if _, end, e := names.Unquote(begun, at); e != api.ErrEscape || end != to {
		t.Fatalf("Unquote(%q, %d): %d, %d, not told at the end", begun, at, end, e)
	}
	for _, tail := range tails {
		if _, end, e := names.Unquote(begun+tail, at); e == api.OK && end == to+len(tail) {
			return
		}
	}
	t.Fatalf("Unquote(%q, %d): nothing goes on behind", begun, at)
}

// P1.8
func TestOneByOne(t *testing.T) {
	for _, name := range []string{"a", "Zz", "b_9", "A__0", strings.Repeat("q", 31), strings.Repeat("q", 32)} {
		for n := 1; n <= len(name); n++ {
			if !names.Right(name[:n]) {
				t.Errorf("a beginning of a name: %q", name[:n])
			}
		}
		for b := range 256 {
			more := name + string([]byte{byte(b)})
			want := len(more) <= 32 && furtherByte.MatchString(more)
			if names.Right(more) != want {
				t.Errorf("Right(%q): not %v", more, want)
			}
		}
	}
	each("?a0_ -1", 5, func(s string) {
		if names.Right(s) && names.Own(s) {
			t.Errorf("both: %q", s)
		}
		checkTypes(t, s)
	})
	for _, s := range []string{"true", "false", "-9223372036854775808"} {
		checkTypes(t, s)
	}
}

func checkTypes(t *testing.T, s string) {
	number, truth := names.Fits(api.Int, s), names.Fits(api.Bool, s)
	if (number || truth) && !names.Fits(api.Text, s) {
		t.Errorf("no Text: %q", s)
	}
	if truth && !names.Fits(api.Name, s) || number && names.Fits(api.Name, s) {
		t.Errorf("Int %v, Bool %v, Name %v: %q", number, truth, names.Fits(api.Name, s), s)
	}
}

// P0.1, P0.2: every call answers at all bytes, types and places, and beside ErrArg nothing else.
func TestAnyArguments(t *testing.T) {
	for a := range 256 {
		for b := range 256 {
			s := string([]byte{byte(a), byte(b)})
			for at := -1; at <= 3; at++ {
				text, to, e := names.Unquote(s, at)
				if (at < 0 || at > 2) != (e == api.ErrArg) || e != api.OK && text != "" || e == api.ErrArg && to != 0 {
					t.Fatalf("Unquote(%q, %d): %q, %d, %d", s, at, text, to, e)
				}
				names.Fits(at, s)
			}
			if n, e := names.Int(s); e != api.OK && (n != 0 || e != api.ErrArg) {
				t.Fatalf("Int(%q): %d, %d", s, n, e)
			}
		}
	}
}
