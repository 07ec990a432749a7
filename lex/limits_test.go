package lex_test

import (
	"slices"
	"strings"
	"testing"

	"topiary/api"
)

// P7.1: a text of 4096 bytes and of one more, with tokens and without.
func TestLength(t *testing.T) {
	for _, b := range []string{" ", "\n", "-", "(", "a", "9", "0", "!", "=", "\"", "\\", "_", "\x00", "\xff"} {
		whole := strings.Repeat(b, 4096)
		told(t, whole)
		for _, more := range []string{b, " ", "a", whole, strings.Repeat(whole, 100)} {
			refuses(t, whole+more, api.ErrLong, 0)
		}
	}
	reads(t, strings.Repeat(" ", 4096))
	var names, minus []api.Token
	for i := range 2048 {
		names, minus = append(names, name("a", 2*i)), append(append(minus, mark("-", 2*i)), mark("-", 2*i+1))
	}
	reads(t, strings.Repeat("a ", 2048), names...)
	reads(t, strings.Repeat("-", 4096), minus...)
	long := quote(strings.Repeat("v", 4094), 0)
	reads(t, `"`+long.Text+`"`, long)
	refuses(t, ` "`+long.Text+`"`, api.ErrLong, 0)
	wrongAt(t, `"`+long.Text+"v", 4096)
	wrongAt(t, strings.Repeat(" ", 4095)+"!", 4096)
	wrongAt(t, strings.Repeat(" ", 4095)+",", 4095)
}

// P7.2: tokens that come to 4096 bytes and to more, by texts, by their forms, by how many there are.
func TestJoinedLength(t *testing.T) {
	for _, b := range []string{"v", " ", "\"", "\\", "\n", "\x00", "\xff"} {
		for n := 1020; n < 1030; n++ {
			isJoined(t, []api.Token{quote(strings.Repeat(b, n), 0)})
			isJoined(t, []api.Token{quote(strings.Repeat(b, 2*n), 0)})
			isJoined(t, []api.Token{quote(strings.Repeat(b, n), 0), quote(strings.Repeat(b, 3*n), 0)})
		}
		for n := 4090; n < 4100; n++ {
			isJoined(t, []api.Token{quote(strings.Repeat(b, n), 0)})
			isJoined(t, []api.Token{quote(strings.Repeat(b, n-5), 0), name("a", 0)})
			isJoined(t, []api.Token{name("a", 0), quote(strings.Repeat(b, n-5), 0)})
		}
	}
	for n := 2040; n < 2056; n++ {
		isJoined(t, slices.Repeat([]api.Token{mark("-", 0)}, n))
		isJoined(t, append(slices.Repeat([]api.Token{mark("-", 0)}, n), mark("->", 0)))
	}
	joins(t, strings.Repeat("0 ", 2047)+"or", append(slices.Repeat([]api.Token{number(0, 0)}, 2047), word("or", 0))...)
	joinsNot(t, api.ErrLong, append(slices.Repeat([]api.Token{number(0, 0)}, 2047), word("not", 0))...)
	joinsNot(t, api.ErrLong, slices.Repeat([]api.Token{quote(strings.Repeat("\x00", 1<<20), 0)}, 1<<12)...)
}

// P7.2: what may not be is told ahead of what is too long, wherever it stands.
func TestWrongAndLong(t *testing.T) {
	long := quote(strings.Repeat("v", 5000), 0)
	wrong := name("not", 0)
	joinsNot(t, api.ErrLong, long)
	joinsNot(t, api.ErrArg, long, wrong)
	joinsNot(t, api.ErrArg, wrong, long)
	many := slices.Repeat([]api.Token{number(1, 0)}, 5000)
	joinsNot(t, api.ErrLong, many...)
	joinsNot(t, api.ErrArg, append(many, wrong)...)
	joinsNot(t, api.ErrArg, append([]api.Token{wrong}, many...)...)
	long.Int = 1
	joinsNot(t, api.ErrArg, long)
	joinsNot(t, api.ErrArg, name(long.Text, 0))
	joinsNot(t, api.ErrArg, mark(strings.Repeat("-", 5000), 0))
}
