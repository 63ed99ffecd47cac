package link

import (
	"errors"
	"math"
	"slices"
	"testing"

	"fingerpost/api"
	"fingerpost/frame"
)

// took is a receiver that took frames of these numbers.
func took(t *testing.T, numbers ...int) *Receiver {
	t.Helper()
	_, r := pair(t)
	for _, n := range numbers {
		if _, err := r.Take(of(n)); err != nil {
			t.Fatal(n, err)
		}
	}
	return r
}

// takes a frame of a number, and tells those of others.
func takes(t *testing.T, r *Receiver, n int, told ...int) {
	t.Helper()
	due := r.Due()
	l, err := r.Take(of(n))
	if texts(l) != all(told...) || err != nil || r.Due() != due+len(told) {
		t.Errorf("%d: %s, %v, due %d, want %d, then due %d", n, texts(l), err, r.Due(), told, due+len(told))
	}
}

// P111: of each kind that may be taken, as it was sent.
func TestTakeKinds(t *testing.T) {
	_, r := pair(t)
	for k, kind := range []byte("dteedt") {
		f := frame.Frame{Kind: kind, From: 2, To: 4, Seq: k, Nums: from(0, k*40)}
		l, err := r.Take(f)
		if texts(l) != texts([]frame.Frame{f}) || err != nil || r.Due() != k+1 {
			t.Errorf("%v: %v, %v, due %d", f, l, err, r.Due())
		}
	}
}

// P111: in order, one by one; in turned order; and doubled.
func TestTake(t *testing.T) {
	_, r := pair(t)
	for k := range 30 {
		takes(t, r, k, k)
		takes(t, r, k)
		takes(t, r, 0)
	}
	_, r = pair(t)
	for k := api.MaxBuffer; k > 0; k-- {
		takes(t, r, k)
	}
	takes(t, r, 0, from(0, api.MaxBuffer+1)...)
	_, r = pair(t)
	takes(t, r, 2)
	takes(t, r, 2)
	takes(t, r, 5)
	takes(t, r, 0, 0)
	takes(t, r, 2)
	takes(t, r, 1, 1, 2)
	takes(t, r, 2)
	takes(t, r, 4)
	takes(t, r, 3, 3, 4, 5)
	takes(t, r, 5)
	takes(t, r, 6, 6)
}

// P111: fewer than MaxBuffer wait: those that come when so many do are let go, but the one that is due is not.
func TestTakeFull(t *testing.T) {
	waiting := from(1, api.MaxBuffer+1)
	r := took(t, waiting...)
	takes(t, r, api.MaxBuffer+1)
	takes(t, r, api.MaxSeq)
	takes(t, r, 1)
	takes(t, r, 0, append([]int{0}, waiting...)...)
	takes(t, r, api.MaxBuffer+1, api.MaxBuffer+1)

	r = took(t, waiting[1:]...)
	takes(t, r, api.MaxSeq)
	takes(t, r, 1)
	takes(t, r, 0, 0)
	takes(t, r, 1, append([]int{1}, waiting[1:]...)...)
	takes(t, r, api.MaxBuffer+1, api.MaxBuffer+1)
}

// P111: one that is told, or let go because it waits, takes no room; told ones make room.
func TestTakeRoom(t *testing.T) {
	r := took(t, 1, 1, 1, 3, 3, 3, 1, 3, 1, 3)
	takes(t, r, 0, 0, 1)
	takes(t, r, 0)
	takes(t, r, 1)
	for _, n := range []int{5, 7, 9, 11, 13, 15, 17} {
		takes(t, r, n)
	}
	takes(t, r, 19)
	takes(t, r, 2, 2, 3)
	takes(t, r, 19)
	takes(t, r, 21)
	takes(t, r, 4, 4, 5)
	for n := 6; n < 18; n += 2 {
		takes(t, r, n, n, n+1)
	}
	takes(t, r, 18, 18, 19)
	takes(t, r, 20, 20)
	takes(t, r, 21, 21)
}

// P111: of two of one number the first one counts, whether it is told or waits; one that was let go is none.
func TestFirstCounts(t *testing.T) {
	_, r := pair(t)
	say := func(seq, n int) string {
		t.Helper()
		f := of(seq)
		f.Nums = []int{n}
		l, err := r.Take(f)
		if err != nil {
			t.Error(err)
		}
		return texts(l)
	}
	if got := say(1, 10) + say(1, 11) + say(0, 12) + say(0, 13) + say(1, 14); got != "d24 0 [12];d24 1 [10];" {
		t.Error(got)
	}
	for n := range api.MaxBuffer {
		say(10+n, 1)
	}
	if got := say(3, 20) + say(2, 21) + say(3, 22); got != "d24 2 [21];d24 3 [22];" {
		t.Error(got)
	}
}

// P111: the highest numbers that a frame may have.
func TestTakeHighest(t *testing.T) {
	r := took(t, api.MaxSeq, api.MaxSeq-1)
	r.due = api.MaxSeq - 3
	takes(t, r, api.MaxSeq-2)
	takes(t, r, api.MaxSeq-3, api.MaxSeq-3, api.MaxSeq-2, api.MaxSeq-1, api.MaxSeq)
	takes(t, r, api.MaxSeq)
	takes(t, r, 0)
}

// P111: frame.Check's errors, then ErrShape, bare, and nothing changes by them.
func TestTakeWrong(t *testing.T) {
	for i, x := range []struct {
		f    frame.Frame
		want error
	}{
		{frame.Frame{}, api.ErrKind},
		{frame.Frame{Kind: 'x', From: 2, To: 4, Seq: 1}, api.ErrKind},
		{frame.Frame{Kind: 'A', From: 9, To: 9, Seq: -1}, api.ErrKind},
		{frame.Frame{Kind: 'd', From: 2, To: 9, Seq: 1}, api.ErrBound},
		{frame.Frame{Kind: 'd', From: -1, To: 4, Seq: 1}, api.ErrBound},
		{frame.Frame{Kind: 'd', From: 2, To: 4, Seq: -1}, api.ErrBound},
		{frame.Frame{Kind: 'd', From: 2, To: 4, Seq: math.MinInt}, api.ErrBound},
		{frame.Frame{Kind: 'd', From: 2, To: 4, Seq: api.MaxSeq + 1}, api.ErrBound},
		{frame.Frame{Kind: 'd', From: 2, To: 4, Seq: 1, Nums: []int{-1}}, api.ErrBound},
		{frame.Frame{Kind: 'a', From: 2, To: 4, Seq: 1, Nums: []int{api.MaxSeq + 1}}, api.ErrBound},
		{frame.Frame{Kind: 'a', From: 4, To: 2, Seq: -1}, api.ErrBound},
		{frame.Frame{Kind: 'd', From: 2, To: 2, Seq: 1}, api.ErrShape},
		{frame.Frame{Kind: 'd', From: 4, To: 4, Seq: 1, Nums: make([]int, 201)}, api.ErrShape},
		{frame.Frame{Kind: 'd', From: 2, To: 4, Seq: 1, Nums: make([]int, 201)}, api.ErrFull},
		{frame.Frame{Kind: 'a', From: 4, To: 2, Seq: 1, Nums: make([]int, 201)}, api.ErrFull},
		{frame.Frame{Kind: 'd', From: 4, To: 2, Seq: 1}, api.ErrShape},
		{frame.Frame{Kind: 'd', From: 2, To: 3, Seq: 1}, api.ErrShape},
		{frame.Frame{Kind: 'd', From: 1, To: 4, Seq: 1}, api.ErrShape},
		{frame.Frame{Kind: 't', From: 0, To: 1, Seq: 1}, api.ErrShape},
		{frame.Frame{Kind: 'a', From: 4, To: 2, Seq: 1}, api.ErrShape},
		{frame.Frame{Kind: 'a', From: 2, To: 4, Seq: 1}, api.ErrShape},
		{frame.Frame{Kind: 'a', From: 2, To: 4}, api.ErrShape},
		{frame.Frame{Kind: 'd', From: 4, To: 2}, api.ErrShape},
	} {
		r := took(t, 0, 2, 4)
		for range 2 * api.MaxBuffer {
			l, err := r.Take(x.f)
			if len(l) > 0 || err != x.want || r.Due() != 1 {
				t.Fatalf("%d: %v, %v, due %d, want %v", i, l, err, r.Due(), x.want)
			}
			var at *api.Fault
			if errors.As(err, &at) {
				t.Error(i, "has a place")
			}
			if x.want != api.ErrBound {
				x.f.Seq++ // so that it is asked of one that is told, one that waits, and others
			}
		}
		takes(t, r, 3)
		takes(t, r, 1, 1, 2, 3, 4)
	}
}

// P111: whatever comes, in any order, the receiver does what one does that asks a list of what came.
func TestReceiverAsModel(t *testing.T) {
	for seed := range 400 {
		d := dice(seed + 1)
		_, r := pair(t)
		var waits []int
		wide := 1 + d.below(20)
		for range 500 {
			due := r.Due()
			n := max(0, due-3+d.below(wide+3))
			if n > due && len(waits) < api.MaxBuffer && !slices.Contains(waits, n) {
				waits = append(waits, n)
			}
			var told []int
			if n == due {
				told = append(told, n)
				for slices.Contains(waits, due+len(told)) {
					told = append(told, due+len(told))
				}
			}
			waits = slices.DeleteFunc(waits, func(n int) bool { return slices.Contains(told, n) })
			takes(t, r, n, told...)
			if t.Failed() {
				t.Fatal("seed", seed)
			}
		}
	}
}

// P3, P4: a frame is only read, also behind its list's length, and not kept, neither one that waits nor one that is told; what is told is nobody else's.
func TestReceiverMemory(t *testing.T) {
	_, r := pair(t)
	whole := [][]int{{1, 2, -5, -6}, {3, 4, -7, -8}}
	take := func(seq int) []frame.Frame {
		t.Helper()
		l, err := r.Take(frame.Frame{Kind: 'd', From: 2, To: 4, Seq: seq, Nums: whole[seq][:2]})
		if err != nil {
			t.Fatal(err)
		}
		return l
	}
	take(1)
	whole[1][0], whole[1][1] = 99, 98
	l := take(0)
	whole[0][0], whole[0][1] = 97, 96
	if got := texts(l); got != "d24 0 [1 2];d24 1 [3 4];" {
		t.Error(got)
	}
	spoil(l)
	if !slices.Equal(whole[0], []int{97, 96, -5, -6}) || !slices.Equal(whole[1], []int{99, 98, -7, -8}) {
		t.Error(whole)
	}
	takes(t, r, 2, 2)
}
