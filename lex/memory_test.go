package lex_test

import (
	"slices"
	"testing"
	"unsafe"

	"topiary/api"
	"topiary/lex"
)

// A stretch is the memory of a list or of a text, the spare room behind it included.
type stretch struct {
	from, to uintptr
}

func stretchOf(l []api.Token) stretch {
	from := uintptr(unsafe.Pointer(unsafe.SliceData(l)))
	return stretch{from, from + uintptr(cap(l))*unsafe.Sizeof(api.Token{})}
}

func stretchOfText(s string) stretch {
	from := uintptr(unsafe.Pointer(unsafe.StringData(s)))
	return stretch{from, from + uintptr(len(s))}
}

func (a stretch) shares(b stretch) bool { return a.from < b.to && b.from < a.to }

// P0.4: what Scan answers has memory of its own, and nothing of the text's.
func TestScannedMemory(t *testing.T) {
	for _, s := range []string{"ab", "and", "->", `"ab"`, `any item in self#item: item.val < "ab" end`} {
		s = string([]byte(s))
		a, _, _ := lex.Scan(s)
		b, _, _ := lex.Scan(s)
		if stretchOf(a).shares(stretchOf(b)) {
			t.Errorf("two answers of Scan(%q) share memory", s)
		}
		for _, k := range a {
			if stretchOfText(k.Text).shares(stretchOfText(s)) {
				t.Errorf("Scan(%q): %q is a piece of it", s, k.Text)
			}
		}
	}
}

// P0.4: Join leaves the list as it is, the spare room behind it too, and keeps nothing of its texts.
func TestJoinChangesNothing(t *testing.T) {
	for _, k := range []api.Token{number(1, 5), quote("a", 5), name("abc", 5), word("and", 5), mark("->", 5), name("and", 5)} {
		k.Text = string([]byte(k.Text))
		l := append(make([]api.Token, 0, 4), k)
		room := l[:4]
		room[1], room[2], room[3] = number(7, 7), name("spare", 7), api.Token{}
		was := slices.Clone(room)
		s, _ := lex.Join(l)
		if !slices.Equal(room, was) {
			t.Errorf("Join(%v): then %v", was, room)
		}
		if k.Text != "" && stretchOfText(s).shares(stretchOfText(k.Text)) {
			t.Errorf("Join(%v) is a piece of it", l)
		}
	}
}

// P0.3, P0.4: what is done to an answer changes no later one, and a refused call neither.
func TestNothingKept(t *testing.T) {
	const s = "self.a->b"
	want, _ := tokensOf(s)
	l, _, _ := lex.Scan(s)
	room := l[:cap(l)]
	for i := range room {
		room[i] = name("scribbled", -5)
	}
	wrongAt(t, "self.a- >", 8)
	joinsNot(t, api.ErrArg, want[0], name("not", 0))
	reads(t, s, want...)
	joins(t, "self . a -> b", want...)
}
