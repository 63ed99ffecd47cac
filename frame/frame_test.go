package frame

import (
	"errors"
	"math"
	"slices"
	"testing"

	"fingerpost/api"
)

// least is a frame that is well and has nothing that need not be.
func least() Frame { return Frame{Kind: 'd', To: 1} }

// with is the least frame, changed.
func with(change func(f *Frame)) Frame {
	f := least()
	change(&f)
	return f
}

// numbers of a frame, all one.
func numbers(count, n int) []int {
	return slices.Repeat([]int{n}, count)
}

// wrong are frames with each error, also such that have several; the first one is told.
func wrong() []struct {
	f    Frame
	want error
} {
	return []struct {
		f    Frame
		want error
	}{
		{Frame{}, api.ErrKind},
		{with(func(f *Frame) { f.Kind = 0 }), api.ErrKind},
		{with(func(f *Frame) { f.Kind = 'b' }), api.ErrKind},
		{with(func(f *Frame) { f.Kind = 'D' }), api.ErrKind},
		{with(func(f *Frame) { f.Kind = 255 }), api.ErrKind},
		{with(func(f *Frame) { f.Kind, f.From = 'x', -1 }), api.ErrKind},
		{with(func(f *Frame) { f.Kind, f.Seq = 'x', -1 }), api.ErrKind},
		{with(func(f *Frame) { f.Kind, f.To = 'x', 0 }), api.ErrKind},
		{with(func(f *Frame) { f.Kind, f.Nums = 'x', numbers(201, -1) }), api.ErrKind},
		{with(func(f *Frame) { f.From = -1 }), api.ErrBound},
		{with(func(f *Frame) { f.From = api.MaxPeers }), api.ErrBound},
		{with(func(f *Frame) { f.From = 256 }), api.ErrBound},
		{with(func(f *Frame) { f.From = math.MinInt }), api.ErrBound},
		{with(func(f *Frame) { f.From = math.MaxInt }), api.ErrBound},
		{with(func(f *Frame) { f.To = -1 }), api.ErrBound},
		{with(func(f *Frame) { f.To = api.MaxPeers }), api.ErrBound},
		{with(func(f *Frame) { f.To = 257 }), api.ErrBound},
		{with(func(f *Frame) { f.To = math.MinInt }), api.ErrBound},
		{with(func(f *Frame) { f.To = math.MaxInt }), api.ErrBound},
		{with(func(f *Frame) { f.Seq = -1 }), api.ErrBound},
		{with(func(f *Frame) { f.Seq = api.MaxSeq + 1 }), api.ErrBound},
		{with(func(f *Frame) { f.Seq = 1 << 32 }), api.ErrBound},
		{with(func(f *Frame) { f.Seq = math.MinInt }), api.ErrBound},
		{with(func(f *Frame) { f.Seq = math.MaxInt }), api.ErrBound},
		{with(func(f *Frame) { f.Nums = []int{-1} }), api.ErrBound},
		{with(func(f *Frame) { f.Nums = []int{0, 1, api.MaxSeq + 1} }), api.ErrBound},
		{with(func(f *Frame) { f.Nums = []int{0, 1 << 32, 2} }), api.ErrBound},
		{with(func(f *Frame) { f.Nums = []int{math.MinInt, math.MaxInt} }), api.ErrBound},
		{with(func(f *Frame) { f.From, f.To = 6, 6 }), api.ErrBound},
		{with(func(f *Frame) { f.To, f.Seq = 0, -1 }), api.ErrBound},
		{with(func(f *Frame) { f.To, f.Nums = 0, []int{-1} }), api.ErrBound},
		{with(func(f *Frame) { f.To, f.Nums = 9, numbers(201, 0) }), api.ErrBound},
		{with(func(f *Frame) { f.Nums = append(numbers(201, 0), -1) }), api.ErrBound},
		{with(func(f *Frame) { f.To = 0 }), api.ErrShape},
		{with(func(f *Frame) { f.From, f.To = 5, 5 }), api.ErrShape},
		{with(func(f *Frame) { f.Kind, f.To = 'a', 0 }), api.ErrShape},
		{with(func(f *Frame) { f.To, f.Nums = 0, numbers(201, 0) }), api.ErrShape},
		{with(func(f *Frame) { f.Nums = numbers(201, 0) }), api.ErrFull},
		{with(func(f *Frame) { f.Nums = numbers(256, 7) }), api.ErrFull},
		{with(func(f *Frame) { f.Nums = numbers(100000, api.MaxSeq) }), api.ErrFull},
	}
}

// well are frames at the edges of what may be.
func well() []Frame {
	return []Frame{
		least(),
		with(func(f *Frame) { f.Kind = 'e' }),
		with(func(f *Frame) { f.Kind = 't' }),
		with(func(f *Frame) { f.Kind = 'a' }),
		with(func(f *Frame) { f.From, f.To = api.MaxPeers-1, 0 }),
		with(func(f *Frame) { f.From, f.To = 0, api.MaxPeers-1 }),
		with(func(f *Frame) { f.From, f.To = 4, 5 }),
		with(func(f *Frame) { f.Seq = 1 }),
		with(func(f *Frame) { f.Seq = 255 }),
		with(func(f *Frame) { f.Seq = 256 }),
		with(func(f *Frame) { f.Seq = api.MaxSeq - 1 }),
		with(func(f *Frame) { f.Seq = api.MaxSeq }),
		with(func(f *Frame) { f.Nums = []int{} }),
		with(func(f *Frame) { f.Nums = []int{0} }),
		with(func(f *Frame) { f.Nums = []int{api.MaxSeq} }),
		with(func(f *Frame) { f.Nums = []int{5, 1, 5, api.MaxSeq - 1, 0, api.MaxSeq} }),
		with(func(f *Frame) { f.Nums = numbers(199, 1) }),
		with(func(f *Frame) { f.Nums = numbers(200, api.MaxSeq) }),
		with(func(f *Frame) { f.Seq, f.Nums = api.MaxSeq, numbers(200, 0) }),
	}
}

// P100: each of the four kinds, and all bounds, from both sides; errors are bare.
func TestCheck(t *testing.T) {
	for _, f := range well() {
		if err := Check(f); err != nil {
			t.Errorf("Check(%v) = %v", f, err)
		}
	}
	for _, x := range wrong() {
		if err := Check(x.f); err != x.want {
			t.Errorf("Check(%c %d %d %d, %d Nums) = %v, want %v", x.f.Kind, x.f.From, x.f.To, x.f.Seq, len(x.f.Nums), err, x.want)
		}
	}
}

// P100: no other byte is a kind.
func TestKinds(t *testing.T) {
	for kind := range 256 {
		var want error = api.ErrKind
		if slices.Contains([]byte("deta"), byte(kind)) {
			want = nil
		}
		if err := Check(Frame{Kind: byte(kind), To: 1}); err != want {
			t.Errorf("kind %q: %v, want %v", byte(kind), err, want)
		}
	}
	if string([]byte{KindData, KindEdge, KindToken, KindAnswer}) != "deta" {
		t.Error("the kinds are not told by their names")
	}
}

// P100: of each two peers, also such that there are not.
func TestPeers(t *testing.T) {
	for from := -2; from < api.MaxPeers+3; from++ {
		for to := -2; to < api.MaxPeers+3; to++ {
			var want error
			if min(from, to) < 0 || max(from, to) >= api.MaxPeers {
				want = api.ErrBound
			} else if from == to {
				want = api.ErrShape
			}
			if err := Check(Frame{Kind: 't', From: from, To: to}); err != want {
				t.Errorf("%d, %d: %v, want %v", from, to, err, want)
			}
		}
	}
}

// P3: errors of this package have no place.
func TestNoPlace(t *testing.T) {
	for _, x := range wrong() {
		var f *api.Fault
		if _, err := Encode(x.f); errors.As(err, &f) {
			t.Error(err)
		}
	}
}

// P3, P4: a frame is only read, also what lies behind its list's length.
func TestOnlyRead(t *testing.T) {
	whole := []int{3, 1, 2, -5, -6}
	f := Frame{Kind: 'e', From: 2, To: 3, Seq: 4, Nums: whole[:3]}
	if err := Check(f); err != nil {
		t.Error(err)
	}
	s, err := Encode(f)
	if err != nil || len(s) != 24 {
		t.Errorf("%q, %v", s, err)
	}
	if !slices.Equal(whole, []int{3, 1, 2, -5, -6}) {
		t.Error("changed:", whole)
	}
}
