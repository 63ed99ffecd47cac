package link

import (
	"fmt"
	"math"
	"testing"

	"fingerpost/api"
	"fingerpost/frame"
)

// dice are numbers that look thrown, and are the same ones each time.
type dice uint64

func (d *dice) below(n int) int {
	*d ^= *d << 13
	*d ^= *d >> 7
	*d ^= *d << 17
	return int(uint64(*d) >> 11 % uint64(n))
}

// pair of the link from 2 to 4.
func pair(t *testing.T) (*Sender, *Receiver) {
	t.Helper()
	s, err := NewSender(2, 4)
	if err != nil {
		t.Fatal(err)
	}
	r, err := NewReceiver(2, 4)
	if err != nil {
		t.Fatal(err)
	}
	return s, r
}

// of is a frame of the link of a pair, which tells its own number.
func of(seq int) frame.Frame {
	return frame.Frame{Kind: 'd', From: 2, To: 4, Seq: seq, Nums: []int{seq}}
}

// texts of frames, each with all that it has: a nil list and an empty one are one thing.
func texts(l []frame.Frame) string {
	s := ""
	for _, f := range l {
		s += fmt.Sprintf("%c%d%d %d %d;", f.Kind, f.From, f.To, f.Seq, f.Nums)
	}
	return s
}

// all frames of numbers, as texts tells them.
func all(numbers ...int) string {
	var l []frame.Frame
	for _, n := range numbers {
		l = append(l, of(n))
	}
	return texts(l)
}

// from a number on, up to below another one.
func from(a, b int) []int {
	var l []int
	for ; a < b; a++ {
		l = append(l, a)
	}
	return l
}

// spoil what was answered, also what lies behind each list's length.
func spoil(l []frame.Frame) {
	for i := range l {
		n := l[i].Nums[:cap(l[i].Nums)]
		for k := range n {
			n[k] = -9
		}
		l[i] = frame.Frame{Seq: -9}
	}
}

// P110, P111: of each two peers, also such that there are not; ErrBound is told ahead of ErrShape.
func TestEnds(t *testing.T) {
	peers := append([]int{math.MinInt, 256, 258, math.MaxInt}, from(-3, api.MaxPeers+3)...)
	for _, a := range peers {
		for _, b := range peers {
			var want error
			if min(a, b) < 0 || max(a, b) >= api.MaxPeers {
				want = api.ErrBound
			} else if a == b {
				want = api.ErrShape
			}
			if s, err := NewSender(a, b); err != want || (s == nil) != (want != nil) {
				t.Errorf("sender %d, %d: %v, %v, want %v", a, b, s, err, want)
			}
			if r, err := NewReceiver(a, b); err != want || (r == nil) != (want != nil) {
				t.Errorf("receiver %d, %d: %v, %v, want %v", a, b, r, err, want)
			}
			if want == nil {
				asked(t, a, b)
			}
		}
	}
}

// asked is the link between two peers: what is sent is of it, and is told there, and at no other link.
func asked(t *testing.T, a, b int) {
	t.Helper()
	s, _ := NewSender(a, b)
	f, err := s.Send('e', []int{1, 2})
	if want := fmt.Sprintf("e%d%d 0 [1 2];", a, b); texts([]frame.Frame{f}) != want || err != nil {
		t.Errorf("%v, %v, want %s", f, err, want)
	}
	for c := range api.MaxPeers {
		for d := range api.MaxPeers {
			r, err := NewReceiver(c, d)
			if err != nil {
				continue
			}
			l, err := r.Take(f)
			if c == a && d == b {
				if texts(l) != texts([]frame.Frame{f}) || err != nil || r.Due() != 1 {
					t.Errorf("%v at %d, %d: %v, %v", f, c, d, l, err)
				}
			} else if len(l) > 0 || err != api.ErrShape || r.Due() != 0 {
				t.Errorf("%v at %d, %d: %v, %v", f, c, d, l, err)
			}
		}
	}
}

// P110, P111: at first nothing is kept, nothing is due but 0, and a tick sends nothing.
func TestFirst(t *testing.T) {
	s, r := pair(t)
	if s.Waits() != 0 || r.Due() != 0 {
		t.Error(s.Waits(), r.Due())
	}
	for range 10 {
		if l := s.Tick(); len(l) > 0 {
			t.Error(l)
		}
	}
	for _, n := range []int{math.MinInt, -1, 0, 1, math.MaxInt} {
		s.Acked(n)
	}
	if f, err := s.Send('d', []int{0}); texts([]frame.Frame{f}) != all(0) || err != nil || s.Waits() != 1 {
		t.Error(f, err, s.Waits())
	}
}

// P2: links are none of each other's, also those between the same peers.
func TestApart(t *testing.T) {
	s, r := pair(t)
	v, w := pair(t)
	if _, err := s.Send('d', nil); err != nil {
		t.Fatal(err)
	}
	if l, err := r.Take(of(0)); texts(l) != all(0) || err != nil {
		t.Fatal(l, err)
	}
	if s.Waits() != 1 || v.Waits() != 0 || r.Due() != 1 || w.Due() != 0 {
		t.Error(s.Waits(), v.Waits(), r.Due(), w.Due())
	}
	if f, err := v.Send('d', []int{0}); texts([]frame.Frame{f}) != all(0) || err != nil {
		t.Error(f, err)
	}
	if l, err := w.Take(of(0)); texts(l) != all(0) || err != nil {
		t.Error(l, err)
	}
}
