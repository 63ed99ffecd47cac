// Package set: sets: see ../shared/doc/01-set.md.
package set

import (
	"slices"
	"strconv"
	"strings"

	"fingerpost/api"
)

// maxDigits of a number in a text: so few that every one of them fits an int.
const maxDigits = 9

// Check a set.
func Check(l []int) error {
	if err := checkBounds(l); err != nil {
		return err
	}
	for i := 1; i < len(l); i++ {
		if l[i-1] >= l[i] {
			return api.ErrOrder
		}
	}
	return nil
}

// checkBounds stands alone because a bound anywhere is told ahead of an order anywhere, and Of asks for no order.
func checkBounds(l []int) error {
	for _, n := range l {
		if n < 0 || n >= api.MaxSet {
			return api.ErrBound
		}
	}
	return nil
}

// Of any numbers.
func Of(l []int) ([]int, error) {
	if err := checkBounds(l); err != nil {
		return nil, err
	}
	return slices.Compact(sorted(l)), nil
}

// sorted is a copy, because what is handed over is only read.
func sorted(l []int) []int {
	c := slices.Clone(l)
	slices.Sort(c)
	return c
}

// Has: is a number one of a list?
func Has(l []int, n int) bool {
	return slices.Contains(l, n)
}

// Union of two.
func Union(a, b []int) ([]int, error) {
	if err := checkPair(a, b); err != nil {
		return nil, err
	}
	return Of(slices.Concat(a, b))
}

// Less: those of a that b has not.
func Less(a, b []int) ([]int, error) {
	if err := checkPair(a, b); err != nil {
		return nil, err
	}
	return filter(a, func(n int) bool { return !holds(b, n) }), nil
}

// Both: those of a that b has.
func Both(a, b []int) ([]int, error) {
	if err := checkPair(a, b); err != nil {
		return nil, err
	}
	return filter(a, func(n int) bool { return holds(b, n) }), nil
}

func checkPair(a, b []int) error {
	if err := Check(a); err != nil {
		return err
	}
	return Check(b)
}

// filter keeps the order of the list, so what it keeps of a set is a set.
func filter(l []int, asked func(n int) bool) []int {
	var kept []int
	for _, n := range l {
		if asked(n) {
			kept = append(kept, n)
		}
	}
	return kept
}

// holds is Has where the numbers are known not to fall.
func holds(l []int, n int) bool {
	_, found := slices.BinarySearch(l, n)
	return found
}

// Within: is each of a one of b?
func Within(a, b []int) bool {
	among := sorted(b)
	return !slices.ContainsFunc(a, func(n int) bool { return !holds(among, n) })
}

// Text of a set.
func Text(l []int) string {
	if Check(l) != nil {
		return ""
	}
	words := make([]string, len(l))
	for i, n := range l {
		words[i] = strconv.Itoa(n)
	}
	return "{" + strings.Join(words, ",") + "}"
}

// Read a set.
func Read(s string) ([]int, error) {
	l, ok := readList(s)
	if !ok {
		return nil, api.ErrText
	}
	if err := Check(l); err != nil {
		return nil, err
	}
	return l, nil
}

// readList reads to the end ahead of any other question, because a text that is none is told first.
func readList(s string) ([]int, bool) {
	rest, opened := strings.CutPrefix(s, "{")
	inner, closed := strings.CutSuffix(rest, "}")
	if !opened || !closed {
		return nil, false
	}
	if inner == "" {
		return nil, true
	}
	var l []int
	for _, word := range strings.Split(inner, ",") {
		n, ok := readNumber(word)
		if !ok {
			return nil, false
		}
		l = append(l, n)
	}
	return l, true
}

// readNumber goes by hand because strconv also takes signs and needless zeros.
func readNumber(word string) (int, bool) {
	if word == "" || len(word) > maxDigits || len(word) > 1 && word[0] == '0' {
		return 0, false
	}
	n := 0
	for i := range len(word) {
		if word[i] < '0' || word[i] > '9' {
			return 0, false
		}
		n = n*10 + int(word[i]-'0')
	}
	return n, true
}
