package code

import (
	"strings"

	"topiary/api"
	"topiary/names"
)

// line answers the line of an instruction that may be, with its byte 10.
func line(n api.Ins) string {
	s := words[n.Op]
	switch shapes[n.Op].has {
	case count, number:
		s += " " + names.Show(int64(n.Arg))
	case anInt:
		s += " " + names.Show(n.Int)
	case aText:
		s += " " + names.Quote(n.Text)
	case aName:
		s += " " + n.Text
	}
	return s + "\n"
}

// read reads an instruction's line, from which the byte 10 is cut off, and tells whether it is one.
func read(s string) (api.Ins, bool) {
	word, rest, more := strings.Cut(s, " ")
	n, ok := api.Ins{Op: opOf(word)}, true
	has := shapes[n.Op].has
	switch has {
	case count, number:
		var arg int64
		arg, ok = readInt(rest)
		n.Arg = int(arg)
	case anInt:
		n.Int, ok = readInt(rest)
	case aText:
		n.Text, ok = readText(rest)
	case aName:
		// A piece of the line would keep the whole text that was handed in.
		n.Text = strings.Clone(rest)
	}
	return n, ok && more == (has != nothing) && sound(n)
}

// opOf answers the Op with that word; 0, if there is none.
func opOf(word string) int {
	for op := range words {
		if words[op] == word {
			return op
		}
	}
	return 0
}

func readInt(s string) (int64, bool) {
	v, err := names.Int(s)
	return v, err == api.OK
}

// readText reads a text in quotes, behind which nothing stands.
func readText(s string) (string, bool) {
	v, end, err := names.Unquote(s, 0)
	return v, err == api.OK && end == len(s)
}
