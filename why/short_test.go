package why

import (
	"fmt"
	"slices"
	"testing"

	"fingerpost/api"
	"fingerpost/prog"
)

// P81: a proof in which d has &d by f and g, because that comes there first, though it has it by c too, and the proof needs c. Without g it needs f no more.
func TestShortened(t *testing.T) {
	p := read(t, "var a\nvar b\nvar c\nvar d\nvar e\nvar f\nvar g\na = &d\nb = a\nc = b\nd = c\nf = &d\ng = f\nd = g\ne = *c\n")
	b, err := bookOf(p)
	if err != nil {
		t.Fatal(err)
	}
	l := found(t, p, 4, 3)
	if len(l) != 7 || !slices.ContainsFunc(l, func(s Step) bool { return s.Node == 6 }) {
		t.Fatal("this tells nothing:", l)
	}
	for most, want := range []int{5, 5, 5, 5, 5, 5, 5, 7, 7} {
		if got := b.shortened(slices.Clone(l), most); len(got) != want || !sameProof(p, got, fact{4, 3}) {
			t.Errorf("to %d: %v", most, got)
		}
	}
	if got := fmt.Sprint(b.shortened(l, 6)); got != "[{0 3 0 -1 -1} {1 3 1 0 -1} {2 3 2 1 -1} {3 3 3 2 -1} {4 3 7 3 2}]" {
		t.Error(got)
	}
}

// P81: proofs that are shortened as far as can be: they are well, and of no fact but the last one can they do without.
func TestShortenedToTheEnd(t *testing.T) {
	d, saved := dice(3), 0
	for range 60 {
		p := d.thrown(12, api.MaxFuns, 40)
		b, err := bookOf(p)
		if err != nil {
			t.Fatal(prog.Text(p), err)
		}
		for node, objects := range least(t, p) {
			if len(objects) == 0 {
				continue
			}
			want := fact{node, objects[d.below(len(objects))]}
			l := found(t, p, want.node, want.obj)
			short := b.shortened(l, 0)
			if !sameProof(p, short, want) {
				t.Fatalf("%s: %v of %v", prog.Text(p), short, l)
			}
			for _, s := range short {
				if less, ok := b.search(want, without(short, tells(s))); ok {
					t.Fatalf("%s: %v, though %v would do", prog.Text(p), short, needed(less))
				}
			}
			saved += len(l) - len(short)
		}
	}
	if saved == 0 {
		t.Error("nothing was let go: this tells nothing")
	}
}
