// Package names is layer 1: see shared/doc/01-names.md.
package names

import (
	"strconv"
	"strings"

	"topiary/api"
)

const digits = "0123456789abcdef"

// Right: P1.1.
func Right(s string) bool {
	if len(s) == 0 || len(s) > api.MaxName || !letter(s[0]) {
		return false
	}
	for i := 1; i < len(s); i++ {
		if !inName(s[i]) {
			return false
		}
	}
	return true
}

// Own: P1.1.
func Own(s string) bool {
	return len(s) > 0 && s[0] == '?' && Right(s[1:])
}

// Fits: P1.2.
func Fits(t int, s string) bool {
	switch t {
	case api.Text:
		return len(s) <= api.MaxText
	case api.Int:
		_, e := Int(s)
		return e == api.OK
	case api.Bool:
		return s == "true" || s == "false"
	case api.Name:
		return Right(s)
	}
	return false
}

// Int: P1.3.
func Int(s string) (int64, api.Errno) {
	n, err := strconv.ParseInt(s, 10, 64)
	// ParseInt takes '+', "-0" and noughts ahead as well; a number has but one int's text, and Show writes it.
	if err != nil || Show(n) != s {
		return 0, api.ErrArg
	}
	return n, api.OK
}

// Show: P1.3.
func Show(n int64) string { return strconv.FormatInt(n, 10) }

// Quote: P1.4.
func Quote(s string) string {
	q := make([]byte, 0, len(s)+2)
	q = append(q, '"')
	for i := 0; i < len(s); i++ {
		q = addForm(q, s[i])
	}
	return string(append(q, '"'))
}

// Unquote: P1.5.
func Unquote(s string, at int) (string, int, api.Errno) {
	if at < 0 || at > len(s) {
		return "", 0, api.ErrArg
	}
	if at == len(s) || s[at] != '"' {
		return "", at, api.ErrEscape
	}
	var text []byte
	i := at + 1
read:
	for i < len(s) {
		switch c := s[i]; {
		case c == '"':
			return string(text), i + 1, api.OK
		case c == '\\':
			b, next, ok := escaped(s, i+1)
			i = next
			if !ok {
				break read
			}
			text = append(text, b)
		case numbered(c) || c == '\n':
			break read
		default:
			text = append(text, c)
			i++
		}
	}
	return "", i, api.ErrEscape
}

func letter(b byte) bool {
	return 'A' <= b && b <= 'Z' || 'a' <= b && b <= 'z'
}

func inName(b byte) bool {
	return letter(b) || '0' <= b && b <= '9' || b == '_'
}

// numbered tells whether the form of b is by its number.
func numbered(b byte) bool {
	return (b < ' ' || b > '~') && b != '\n'
}

// addForm adds the form of b to q.
func addForm(q []byte, b byte) []byte {
	switch {
	case b == '"' || b == '\\':
		return append(q, '\\', b)
	case b == '\n':
		return append(q, '\\', 'n')
	case numbered(b):
		return append(q, '\\', 'x', digits[b>>4], digits[b&15])
	}
	return append(q, b)
}

// escaped reads a form from behind its '\\' on: the byte, and the place behind the form; or false, and the place of the first wrong byte.
func escaped(s string, at int) (byte, int, bool) {
	if at == len(s) {
		return 0, at, false
	}
	switch s[at] {
	case '"', '\\':
		return s[at], at + 1, true
	case 'n':
		return '\n', at + 1, true
	case 'x':
		return byNumber(s, at+1)
	}
	return 0, at, false
}

// byNumber reads the two digits of a form, as escaped does.
func byNumber(s string, at int) (byte, int, bool) {
	high, ok := digit(s, at)
	// Of the 16 bytes with that first digit the last one is numbered, if any is: so it tells whether a second digit can be right.
	if !ok || !numbered(high<<4|15) {
		return 0, at, false
	}
	low, ok := digit(s, at+1)
	b := high<<4 | low
	if !ok || !numbered(b) {
		return 0, at + 1, false
	}
	return b, at + 2, true
}

// digit answers the number of the digit at the place at of s, if one is there.
func digit(s string, at int) (byte, bool) {
	if at >= len(s) {
		return 0, false
	}
	n := strings.IndexByte(digits, s[at])
	if n < 0 {
		return 0, false
	}
	return byte(n), true
}
