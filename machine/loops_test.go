package machine_test

import (
	"strconv"
	"strings"
	"testing"

	"topiary/api"
)

// over is code of a loop over the items of self: its Op's word, and its body.
func over(word, body string) string {
	return completed("self, kids item", word+", next 99, "+body+", take %")
}

// P12.1, P12.2: loops over no element, over one, over several, ended early and run to their end.
func TestLoops(t *testing.T) {
	none, one, three := items(t), items(t, "5"), items(t, "5", "7", "5")
	for word, at := range map[string]string{"any": "false", "every": "true", "only": "[]", "sum": "0"} {
		for _, body := range []string{"free", "int 1", "true", "none, id", "load 0, prop v, read"} {
			none.is(t, over(word, body), 1, at+", 0 steps")
			none.is(t, "step 2, self, kids w, "+strings.TrimPrefix(moved(over(word, body), 1), "self, kids item, "), 1, at+", 2 steps")
		}
	}
	isFive := `load 0, prop v, text "5", eq`
	one.is(t, over("any", isFive), 1, "true, 1 steps")
	one.is(t, over("every", isFive), 1, "true, 1 steps")
	one.is(t, over("only", isFive), 1, "[2], 1 steps")
	one.is(t, over("sum", "load 0, prop v, read"), 1, "5, 1 steps")
	one.is(t, over("any", isFive+", not"), 1, "false, 1 steps")
	one.is(t, over("every", isFive+", not"), 1, "false, 1 steps")
	one.is(t, over("only", isFive+", not"), 1, "[], 1 steps")
	three.is(t, over("any", isFive), 1, "true, 1 steps")
	three.is(t, over("any", isFive+", not"), 1, "true, 2 steps")
	three.is(t, over("any", "load 0, id, int 4, eq"), 1, "true, 3 steps")
	three.is(t, over("any", "false"), 1, "false, 3 steps")
	three.is(t, over("every", isFive), 1, "false, 2 steps")
	three.is(t, over("every", isFive+", not"), 1, "false, 1 steps")
	three.is(t, over("every", "load 0, id, int 4, lt"), 1, "false, 3 steps")
	three.is(t, over("every", "true"), 1, "true, 3 steps")
	three.is(t, over("only", isFive), 1, "[2 4], 3 steps")
	three.is(t, over("only", isFive+", not"), 1, "[3], 3 steps")
	three.is(t, over("only", "true"), 1, "[2 3 4], 3 steps")
	three.is(t, over("sum", "load 0, prop v, read"), 1, "17, 3 steps")
	three.is(t, over("sum", "load 0, id"), 1, "9, 3 steps")
	// How often each instruction is begun.
	three.profile(t, over("any", isFive), 1, 9, "1 1 1 1 1 1 1 1 1", api.OK)
	three.profile(t, over("any", isFive+", not"), 1, 9, "1 1 1 2 2 2 2 2 2 2", api.OK)
	three.profile(t, over("any", "false"), 1, 9, "1 1 1 4 3 3", api.OK)
	three.profile(t, over("every", isFive), 1, 9, "1 1 1 2 2 2 2 2 2", api.OK)
	three.profile(t, over("only", "true"), 1, 9, "1 1 1 4 3 3", api.OK)
	three.profile(t, over("sum", "int 2"), 1, 9, "1 1 1 4 3 3", api.OK)
	none.profile(t, over("sum", "int 2"), 1, 9, "1 1 1 1 0 0", api.OK)
	// A next by which the fuel is out was begun; so was what comes to an error.
	three.profile(t, over("sum", "int 2"), 1, 2, "1 1 1 3 2 2", api.ErrFuel)
	three.profile(t, over("sum", "int 2"), 1, 0, "1 1 1 1 0 0", api.ErrFuel)
	three.profile(t, over("sum", "true"), 1, 9, "1 1 1 1 1 1", api.ErrKind)
	three.profile(t, over("any", "free, not"), 1, 9, "1 1 1 1 1 0 0", api.ErrVar)
}

// moved is the code's lines with all places so many further behind.
func moved(s string, by int) string {
	l := strings.Split(s, ", ")
	for i, line := range l {
		word, arg, _ := strings.Cut(line, " ")
		if place, err := strconv.Atoi(arg); err == nil && is(word, "and or unless jump next take") {
			l[i] = word + " " + strconv.Itoa(place+by)
		}
	}
	return strings.Join(l, ", ")
}

// P12.1: what a loop begins with is not what another one had.
func TestLoopsInARow(t *testing.T) {
	w := items(t, "5", "7")
	isFive := `load 0, prop v, text "5", eq`
	first, second := over("any", isFive), over("any", "false")
	w.is(t, first+", "+moved(second, 9)+", eq", 1, "false, 3 steps")
	w.is(t, over("sum", "load 0, id")+", "+moved(over("sum", "int 1"), 7)+", sub", 1, "3, 4 steps")
	w.is(t, over("only", isFive)+", size, "+moved(over("only", isFive), 10)+", size, add", 1, "2, 4 steps")
	// One within another one begins anew at each element.
	w.is(t, over("sum", moved(over("sum", "int 1"), 4)), 1, "4, 6 steps")
	w.is(t, over("every", moved(over("any", "load 1, load 0, eq"), 4)), 1, "true, 5 steps")
	w.is(t, over("sum", moved(over("only", "load 1, load 0, eq"), 4)+", size"), 1, "2, 6 steps")
}

// P12.1: how far a load reaches, and what stands on the stack below a loop.
func TestLoopsWithin(t *testing.T) {
	w := wide(t)
	two := "self, kids item, sum, next 12, load 0, kids arg, sum, next 11, load %, id, take 7, take 3"
	for far, want := range map[string]string{"0": "13, 5 steps", "1": "8, 5 steps"} {
		w.is(t, strings.ReplaceAll(two, "%", far), 1, want)
	}
	three := "self, kids item, sum, next 17, load 0, kids arg, sum, next 16, load 1, kids arg, sum, next 15, load %, id, take 11, take 7, take 3"
	for far, want := range map[string]string{"0": "26, 9 steps", "1": "26, 9 steps", "2": "16, 9 steps"} {
		w.is(t, strings.ReplaceAll(three, "%", far), 1, want)
	}
	// The values below stay as they are, whichever way a loop ends.
	w.is(t, "int 7, self, kids item, any, next 7, true, take 4, unless 8", 1, "7, 1 steps")
	w.is(t, "int 7, self, kids item, any, next 7, false, take 4, unless 8", 1, "7, 3 steps")
	w.is(t, "int 7, self, kids item, every, next 7, true, take 4, unless 8", 1, "7, 3 steps")
	w.is(t, "int 7, self, kids item, every, next 7, false, take 4, unless 8", 1, "7, 1 steps")
	w.is(t, "int 7, self, kids item, sum, next 7, int 3, take 4, sub", 1, "-2, 3 steps")
	w.is(t, "int 7, self, kids item, sum, next 11, int 9, load 0, kids arg, size, sub, take 4, sub", 1, "-18, 3 steps")
	w.is(t, "int 7, self, kids item, only, next 10, int 4, load 0, id, lt, take 4, size, sub", 1, "6, 3 steps")
}

// P12.1: several takes of one loop, and what stands behind them.
func TestTakes(t *testing.T) {
	w := wide(t)
	// The nodes 2 and 5 are Nums, the node 4 is none.
	const sum = "self, kids item, sum, next 11, load 0, is Num, unless 9, int 100, take 3, int 1, take 3"
	w.is(t, sum, 1, "201, 3 steps")
	w.profile(t, sum, 1, 9, "1 1 1 4 3 3 3 2 2 1 1", api.OK)
	const some = "self, kids item, any, next 11, load 0, is Num, unless 9, false, take 3, true, take 3"
	w.is(t, some, 1, "true, 2 steps")
	w.profile(t, some, 1, 9, "1 1 1 2 2 2 2 1 1 1 1", api.OK)
	w.fails(t, strings.Replace(sum, "int 1,", "free,", 1), 1, api.ErrVar, 2)
	// What stands behind the last take is what another way leads to.
	const other = "%, unless 9, self, kids item, sum, next 10, load 0, id, take 5, int 7"
	w.is(t, strings.Replace(other, "%", "true", 1), 1, "11, 3 steps")
	w.is(t, strings.Replace(other, "%", "false", 1), 1, "7, 0 steps")
	w.profile(t, strings.Replace(other, "%", "false", 1), 1, 0, "1 1 0 0 0 0 0 0 0 1", api.OK)
}

// P12.1: sums of loops, added one by one.
func TestSums(t *testing.T) {
	s := over("sum", "load 0, prop v, read")
	top, bottom := "9223372036854775807", "-9223372036854775808"
	items(t, "5", "-7").is(t, s, 1, "-2, 2 steps")
	items(t, top, "-1", "1").is(t, s, 1, top+", 3 steps")
	items(t, bottom, "1", "-1").is(t, s, 1, bottom+", 3 steps")
	items(t, top, bottom).is(t, s, 1, "-1, 2 steps")
	items(t, "0", bottom).is(t, s, 1, bottom+", 2 steps")
	// Beyond and back.
	items(t, top, "1", "-5").fails(t, s, 1, api.ErrOver, 2)
	items(t, bottom, "-1", "5").fails(t, s, 1, api.ErrOver, 2)
	items(t, "1", top, bottom).fails(t, s, 1, api.ErrOver, 2)
	items(t, "-5", top, "1", "1").is(t, s, 1, "9223372036854775804, 4 steps")
	// Of two errors the one that comes first.
	items(t, top, "1", "x").fails(t, s, 1, api.ErrOver, 2)
	items(t, top, "x", "1").fails(t, s, 1, api.ErrTexts, 2)
	items(t, top, "1").profile(t, s, 1, 9, "1 1 1 2 2 2 2 2", api.ErrOver)
}

// P12.1: which of several errors is told: that of the first instruction that comes to one, the want of steps of a next ahead of what stands behind it.
func TestFirstError(t *testing.T) {
	w := wide(t)
	for _, c := range []struct {
		s    string
		fuel int
		err  api.Errno
	}{
		{"step 1, free", 0, api.ErrFuel}, {"step 1, free", 1, api.ErrVar},
		{"free, step 1", 0, api.ErrVar}, {"true, size, step 1", 0, api.ErrKind},
		{"none, id, step 1", 0, api.ErrNone}, {`text "x", read, free, add`, 0, api.ErrTexts},
		{"int 1, true, add, free, add", 0, api.ErrKind}, {"int 1, free, add, true, not, add", 0, api.ErrVar},
		{"self, all Item, read", 5, api.ErrFuel}, {"self, all Item, read", 6, api.ErrKind},
		{over("any", "free"), 0, api.ErrFuel}, {over("any", "free"), 1, api.ErrVar},
		{over("any", "step 2, free"), 2, api.ErrFuel}, {over("any", "step 2, free"), 3, api.ErrVar},
		{over("sum", "step 1, true"), 1, api.ErrFuel}, {over("sum", "step 1, true"), 2, api.ErrKind},
		{"self, any, next 5, free, take 2", 0, api.ErrKind},
	} {
		w.answers(t, of(t, c.s), 1, c.fuel, come{err: c.err})
		w.asked(t, of(t, c.s), 1)
	}
}
