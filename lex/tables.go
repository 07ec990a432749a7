package lex

var words = [...]string{
	"and", "any", "concept", "else", "end", "every", "false", "first", "id", "if", "in",
	"int", "none", "not", "only", "or", "self", "size", "sum", "text", "then", "true",
}

var marks = [...]string{".", "#", "->", "^", "?", "!!", "(", ")", "+", "-", "*", "==", "!=", "<", "<=", ":"}

// reserved tells whether the text is a reserved word.
func reserved(s string) bool {
	for _, w := range words {
		if w == s {
			return true
		}
	}
	return false
}

// isMark tells whether the text is a mark.
func isMark(s string) bool {
	mark, _ := markAhead(s)
	return mark != "" && mark == s
}

// markAhead answers the longest mark with which the text begins, or the empty text; and how many of its first bytes begin a mark, whole or not.
func markAhead(s string) (mark string, begun int) {
	for _, m := range marks {
		n := common(m, s)
		begun = max(begun, n)
		if n == len(m) && n > len(mark) {
			mark = m
		}
	}
	return mark, begun
}

// common answers how many first bytes the texts have in common.
func common(a, b string) int {
	n := 0
	for n < len(a) && n < len(b) && a[n] == b[n] {
		n++
	}
	return n
}
