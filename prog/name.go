package prog

import (
	"slices"

	"fingerpost/api"
)

// isName goes by bytes: a letter beyond ASCII is no small letter of a name.
func isName(s string) bool {
	if s == "" || len(s) > api.MaxName || !isLetter(s[0]) {
		return false
	}
	for i := range len(s) {
		if !isLetter(s[i]) && !isDigit(s[i]) {
			return false
		}
	}
	return s != "var" && s != "fn" && s != "new" && s != "call"
}

func isLetter(c byte) bool { return 'a' <= c && c <= 'z' }

func isDigit(c byte) bool { return '0' <= c && c <= '9' }

func funNames(p api.Program) []string {
	names := make([]string, len(p.Funs))
	for i, f := range p.Funs {
		names[i] = f.Name
	}
	return names
}

// finder makes the function that looks for a name among these: which one it is, or none.
func finder(names []string) func(name string) int {
	return func(name string) int { return slices.Index(names, name) }
}

// namer makes the function that tells the name of a number.
func namer(names []string) func(n int) string {
	return func(n int) string { return names[n] }
}

// each gives what is asked of every one of a list; an empty list gives nil, as a program without them has.
func each[A, B any](l []A, asked func(v A) B) []B {
	var answers []B
	for _, v := range l {
		answers = append(answers, asked(v))
	}
	return answers
}
