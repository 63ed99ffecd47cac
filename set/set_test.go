package set

import (
	"math"
	"slices"
	"strings"
	"testing"

	"fingerpost/api"
)

// pairs are the calls that take two sets, with what each must keep of a number.
var pairs = []struct {
	name string
	call func(a, b []int) ([]int, error)
	keep func(inA, inB bool) bool
}{
	{"Union", Union, func(inA, inB bool) bool { return inA || inB }},
	{"Less", Less, func(inA, inB bool) bool { return inA && !inB }},
	{"Both", Both, func(inA, inB bool) bool { return inA && inB }},
}

// all numbers that a set may have.
func all() []int {
	l := make([]int, api.MaxSet)
	for i := range l {
		l[i] = i
	}
	return l
}

// chosen are the numbers whose bits are set: every subset of a few numbers, by counting.
func chosen(from []int, bits int) []int {
	var l []int
	for i, n := range from {
		if bits>>i&1 == 1 {
			l = append(l, n)
		}
	}
	return l
}

// P10: ErrBound anywhere is told ahead of ErrOrder anywhere; errors are bare.
func TestCheck(t *testing.T) {
	for _, x := range []struct {
		l    []int
		want error
	}{
		{nil, nil},
		{[]int{}, nil},
		{[]int{0}, nil},
		{[]int{api.MaxSet - 1}, nil},
		{[]int{0, 1, 2, api.MaxSet - 1}, nil},
		{all(), nil},
		{[]int{-1}, api.ErrBound},
		{[]int{api.MaxSet}, api.ErrBound},
		{[]int{math.MinInt}, api.ErrBound},
		{[]int{math.MaxInt}, api.ErrBound},
		{[]int{1, 2, api.MaxSet}, api.ErrBound},
		{[]int{2, 1, api.MaxSet}, api.ErrBound},
		{[]int{2, 1, -1}, api.ErrBound},
		{[]int{1, 1}, api.ErrOrder},
		{[]int{0, 0}, api.ErrOrder},
		{[]int{5, 1}, api.ErrOrder},
		{[]int{1, 2, 3, 3}, api.ErrOrder},
		{[]int{1, 3, 2, 4}, api.ErrOrder},
	} {
		if err := Check(x.l); err != x.want {
			t.Errorf("Check(%v) = %v, want %v", x.l, err, x.want)
		}
	}
}

// P10: any numbers, each once; only a bound is wrong.
func TestOf(t *testing.T) {
	for _, x := range []struct {
		l, want []int
		err     error
	}{
		{nil, nil, nil},
		{[]int{}, nil, nil},
		{[]int{7}, []int{7}, nil},
		{[]int{7, 7, 7}, []int{7}, nil},
		{[]int{5, 1, 5, 0, 1}, []int{0, 1, 5}, nil},
		{[]int{api.MaxSet - 1, 0}, []int{0, api.MaxSet - 1}, nil},
		{[]int{1, 2, 3}, []int{1, 2, 3}, nil},
		{[]int{api.MaxSet}, nil, api.ErrBound},
		{[]int{-1}, nil, api.ErrBound},
		{[]int{3, 1, math.MaxInt}, nil, api.ErrBound},
		{[]int{3, math.MinInt, 1}, nil, api.ErrBound},
	} {
		if got, err := Of(x.l); !slices.Equal(got, x.want) || err != x.err {
			t.Errorf("Of(%v) = %v, %v, want %v, %v", x.l, got, err, x.want, x.err)
		}
	}
	falling := slices.Repeat(all(), 3)
	slices.Reverse(falling)
	if got, err := Of(falling); !slices.Equal(got, all()) || err != nil {
		t.Errorf("Of(all, thrice, falling) = %v, %v", got, err)
	}
}

// P10: the list need be no set, and the number none of a set's.
func TestHas(t *testing.T) {
	l := []int{7, 3, 7, -2, math.MaxInt}
	for _, n := range l {
		if !Has(l, n) {
			t.Errorf("Has(%v, %d) = false", l, n)
		}
	}
	for _, n := range []int{0, 2, 4, 6, 8, -1, math.MinInt} {
		if Has(l, n) {
			t.Errorf("Has(%v, %d) = true", l, n)
		}
	}
	if Has(nil, 0) || Has([]int{}, 0) {
		t.Error("an empty list has a number")
	}
	if Has(l[:1], 3) {
		t.Error("Has reads behind the list's length")
	}
}

// P10, P12: of all pairs of subsets, also at both ends of what a set may have.
func TestPairsOfSets(t *testing.T) {
	some := []int{0, 1, 2, 500, api.MaxSet - 2, api.MaxSet - 1}
	for i := range 1 << len(some) {
		for j := range 1 << len(some) {
			a, b := chosen(some, i), chosen(some, j)
			for _, p := range pairs {
				var want []int
				for _, n := range some {
					if p.keep(slices.Contains(a, n), slices.Contains(b, n)) {
						want = append(want, n)
					}
				}
				if got, err := p.call(a, b); !slices.Equal(got, want) || err != nil {
					t.Errorf("%s(%v, %v) = %v, %v, want %v", p.name, a, b, got, err, want)
				}
			}
		}
	}
}

// P10: Check's errors of a, then of b, and no list with them.
func TestPairsOfWrongLists(t *testing.T) {
	for _, x := range []struct {
		a, b []int
		want error
	}{
		{[]int{1, 1}, []int{-1}, api.ErrOrder},
		{[]int{-1}, []int{1, 1}, api.ErrBound},
		{[]int{2, 1, api.MaxSet}, nil, api.ErrBound},
		{nil, []int{api.MaxSet}, api.ErrBound},
		{[]int{1}, []int{3, 2}, api.ErrOrder},
		{[]int{1}, []int{3, 2, -5}, api.ErrBound},
		{[]int{4, 4}, []int{4, 4}, api.ErrOrder},
	} {
		for _, p := range pairs {
			if got, err := p.call(x.a, x.b); len(got) > 0 || err != x.want {
				t.Errorf("%s(%v, %v) = %v, %v, want %v", p.name, x.a, x.b, got, err, x.want)
			}
		}
	}
}

// P12: what one of both has, and no more, whatever the order of the two.
func TestUnionAlways(t *testing.T) {
	var even, third []int
	for _, n := range all() {
		if n%2 == 0 {
			even = append(even, n)
		}
		if n%3 == 0 {
			third = append(third, n)
		}
	}
	there, err1 := Union(even, third)
	back, err2 := Union(third, even)
	if err1 != nil || err2 != nil || !slices.Equal(there, back) || Check(there) != nil {
		t.Fatalf("Union = %v, %v and %v, %v", there, err1, back, err2)
	}
	for _, n := range all() {
		if want := n%2 == 0 || n%3 == 0; Has(there, n) != want {
			t.Errorf("the union has %d: %v, want %v", n, !want, want)
		}
	}
	if got, err := Union(all(), all()); !slices.Equal(got, all()) || err != nil {
		t.Errorf("Union(all, all) = %v, %v", got, err)
	}
}

// P11: any lists, in any order, with numbers that no set may have.
func TestWithin(t *testing.T) {
	for _, x := range []struct {
		a, b []int
		want bool
	}{
		{nil, nil, true},
		{nil, []int{1}, true},
		{[]int{}, nil, true},
		{[]int{1}, nil, false},
		{[]int{1, 5}, []int{1, 5}, true},
		{[]int{1}, []int{1, 5}, true},
		{[]int{1, 5}, []int{1}, false},
		{[]int{2}, []int{1, 5}, false},
		{[]int{5, 5, 1}, []int{1, 5}, true},
		{[]int{1, 5}, []int{9, 5, 3, 1, 3}, true},
		{[]int{3, 9, 4}, []int{9, 5, 3, 1, 3}, false},
		{[]int{-7, math.MaxInt}, []int{math.MaxInt, 0, -7}, true},
		{[]int{math.MinInt}, []int{math.MaxInt, 0, -7}, false},
	} {
		if got := Within(x.a, x.b); got != x.want {
			t.Errorf("Within(%v, %v) = %v", x.a, x.b, got)
		}
	}
}

// P11: what is written is read again; a list that is not well has no text.
func TestTextAndRead(t *testing.T) {
	for _, x := range []struct {
		text string
		l    []int
	}{
		{"{}", nil},
		{"{0}", []int{0}},
		{"{10}", []int{10}},
		{"{1,5,12}", []int{1, 5, 12}},
		{"{0,100,999}", []int{0, 100, 999}},
	} {
		if got := Text(x.l); got != x.text {
			t.Errorf("Text(%v) = %q, want %q", x.l, got, x.text)
		}
		if got, err := Read(x.text); !slices.Equal(got, x.l) || err != nil {
			t.Errorf("Read(%q) = %v, %v", x.text, got, err)
		}
	}
	if got, err := Read(Text(all())); !slices.Equal(got, all()) || err != nil {
		t.Errorf("Read(Text(all)) = %v, %v", got, err)
	}
	if got := Text([]int{}); got != "{}" {
		t.Errorf("Text of an empty list = %q", got)
	}
	for _, l := range [][]int{{5, 1}, {1, 1}, {-1}, {api.MaxSet}, {1, math.MaxInt}} {
		if got := Text(l); got != "" {
			t.Errorf("Text(%v) = %q, want none", l, got)
		}
	}
}

// P11: what is no text at all is told ahead of what is wrong with its numbers.
func TestReadWrong(t *testing.T) {
	for s, want := range map[string]error{
		"":                       api.ErrText,
		"{":                      api.ErrText,
		"}":                      api.ErrText,
		"}{":                     api.ErrText,
		"1":                      api.ErrText,
		"{1":                     api.ErrText,
		"1}":                     api.ErrText,
		"{{1}":                   api.ErrText,
		"{1}}":                   api.ErrText,
		"{{}}":                   api.ErrText,
		"{}{}":                   api.ErrText,
		" {1}":                   api.ErrText,
		"{1}\n":                  api.ErrText,
		"{ }":                    api.ErrText,
		"{1, 2}":                 api.ErrText,
		"{1;2}":                  api.ErrText,
		"{,}":                    api.ErrText,
		"{1,}":                   api.ErrText,
		"{,1}":                   api.ErrText,
		"{1,,2}":                 api.ErrText,
		"{00}":                   api.ErrText,
		"{01}":                   api.ErrText,
		"{+1}":                   api.ErrText,
		"{-1}":                   api.ErrText,
		"{1_0}":                  api.ErrText,
		"{0x1}":                  api.ErrText,
		"{a}":                    api.ErrText,
		"{\u0661}":               api.ErrText,
		"{1\x00}":                api.ErrText,
		"{\xff}":                 api.ErrText,
		"{1234567890}":           api.ErrText,
		"{000000001}":            api.ErrText,
		"{18446744073709551617}": api.ErrText,
		"{2,1,1000,x}":           api.ErrText,
		"{123456789}":            api.ErrBound,
		"{999999999}":            api.ErrBound,
		"{1000}":                 api.ErrBound,
		"{5,1000,1}":             api.ErrBound,
		"{5,1,1000}":             api.ErrBound,
		"{5,1}":                  api.ErrOrder,
		"{1,1}":                  api.ErrOrder,
		"{0,0}":                  api.ErrOrder,
	} {
		if got, err := Read(s); len(got) > 0 || err != want {
			t.Errorf("Read(%q) = %v, %v, want %v", s, got, err, want)
		}
	}
	long := "{" + strings.Repeat("1,", 100000) + "1}"
	if got, err := Read(long); len(got) > 0 || err != api.ErrOrder {
		t.Errorf("Read of a long text = %d numbers, %v", len(got), err)
	}
}

// P3, P4: what is handed over stays, also what lies behind its length.
func TestOnlyRead(t *testing.T) {
	whole := []int{1, 4, 6, 77, 88}
	other := []int{0, 4, 9, 66, 55}
	a, b := whole[:3], other[:3]
	for _, p := range pairs {
		if _, err := p.call(a, b); err != nil {
			t.Error(p.name, err)
		}
	}
	Within(a, b)
	Text(a)
	turned := []int{9, 3, 9, 1, -1}
	if got, err := Of(turned[:4]); !slices.Equal(got, []int{1, 3, 9}) || err != nil {
		t.Error("Of", got, err)
	}
	if Within([]int{1}, turned[:3]) || !Within([]int{1}, turned[:4]) {
		t.Error("Within")
	}
	if !slices.Equal(whole, []int{1, 4, 6, 77, 88}) || !slices.Equal(other, []int{0, 4, 9, 66, 55}) || !slices.Equal(turned, []int{9, 3, 9, 1, -1}) {
		t.Error("changed:", whole, other, turned)
	}
}

// P4: what is written into an answer, also behind its length, shows nowhere else.
func TestNewMemory(t *testing.T) {
	spoil := func(l []int) {
		l = l[:cap(l)]
		for i := range l {
			l[i] = -9
		}
	}
	for _, x := range [][2][]int{{{1, 2}, {3}}, {{1, 2}, nil}, {nil, {1, 2}}, {{1, 2}, {1, 2}}} {
		a, b := slices.Clone(x[0]), slices.Clone(x[1])
		for _, p := range pairs {
			got, _ := p.call(a, b)
			spoil(got)
		}
		got, _ := Of(a)
		spoil(got)
		if !slices.Equal(a, x[0]) || !slices.Equal(b, x[1]) {
			t.Error("an answer shares memory with", a, b)
		}
	}
}
