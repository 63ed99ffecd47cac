package link

import (
	"fmt"
	"math"
	"reflect"
	"slices"
	"testing"

	"fingerpost/api"
	"fingerpost/frame"
)

// begun is a sender that sent so many frames; each tells its own number.
func begun(t *testing.T, count int) *Sender {
	t.Helper()
	s, _ := pair(t)
	for k := range count {
		sends(t, s, k)
	}
	return s
}

// sends a frame that tells its own number, which is asked.
func sends(t *testing.T, s *Sender, seq int) {
	t.Helper()
	f, err := s.Send('d', []int{seq})
	if texts([]frame.Frame{f}) != all(seq) || err != nil {
		t.Fatalf("%v, %v, want number %d", f, err, seq)
	}
}

// P110: of each kind that may be sent, with none, one and as many numbers as there may be; frames are numbered from 0 on, whatever their kinds.
func TestSend(t *testing.T) {
	s, err := NewSender(5, 0)
	if err != nil {
		t.Fatal(err)
	}
	seq := 0
	for _, nums := range [][]int{nil, {}, {0}, {7, 7, 3}, {api.MaxSeq}, slices.Repeat([]int{api.MaxSeq, 0}, api.MaxNums/2)} {
		for _, kind := range []byte("det") {
			f, err := s.Send(kind, nums)
			want := frame.Frame{Kind: kind, From: 5, To: 0, Seq: seq, Nums: nums}
			seq++
			if texts([]frame.Frame{f}) != texts([]frame.Frame{want}) || err != nil || s.Waits() != seq {
				t.Errorf("%v, %v, %d wait, want %v", f, err, s.Waits(), want)
			}
		}
	}
}

// P110: frame.Check's errors, then ErrKind, bare, and nothing changes by them: neither the next number, nor what is kept, nor when it is sent again.
func TestSendWrong(t *testing.T) {
	for _, x := range []struct {
		kind byte
		nums []int
		want error
	}{
		{0, nil, api.ErrKind},
		{'x', nil, api.ErrKind},
		{'D', nil, api.ErrKind},
		{255, []int{-1}, api.ErrKind},
		{'x', make([]int, api.MaxNums+1), api.ErrKind},
		{'a', nil, api.ErrKind},
		{'a', []int{0}, api.ErrKind},
		{'a', make([]int, api.MaxNums), api.ErrKind},
		{'a', []int{-1}, api.ErrBound},
		{'a', make([]int, api.MaxNums+1), api.ErrFull},
		{'d', []int{-1}, api.ErrBound},
		{'e', []int{0, api.MaxSeq + 1}, api.ErrBound},
		{'t', []int{math.MinInt, math.MaxInt}, api.ErrBound},
		{'t', append(make([]int, api.MaxNums), -1), api.ErrBound},
		{'d', make([]int, api.MaxNums+1), api.ErrFull},
	} {
		for _, count := range []int{0, 1, 5} {
			s := begun(t, count)
			s.Tick()
			for range 2 * api.MaxNums {
				if f, err := s.Send(x.kind, x.nums); !reflect.DeepEqual(f, frame.Frame{}) || err != x.want {
					t.Fatalf("%c, %d numbers: %v, %v, want %v", x.kind, len(x.nums), f, err, x.want)
				}
			}
			if s.Waits() != count {
				t.Errorf("%c, %d numbers: %d wait, want %d", x.kind, len(x.nums), s.Waits(), count)
			}
			sends(t, s, count)
			got := texts(s.Tick()) + "," + texts(s.Tick()) + "," + texts(s.Tick())
			if want := "," + all(from(0, count)...) + "," + all(count); got != want {
				t.Errorf("%c, %d numbers: sent again %s, want %s", x.kind, len(x.nums), got, want)
			}
		}
	}
}

// P110: as many may be kept as a frame may have numbers; what else is wrong is told ahead of that; one that is answered makes room for one.
func TestSendFull(t *testing.T) {
	s := begun(t, api.MaxNums)
	full := func() {
		t.Helper()
		for _, x := range []struct {
			kind byte
			nums []int
			want error
		}{
			{'d', nil, api.ErrFull},
			{'e', []int{1, 2}, api.ErrFull},
			{'d', make([]int, api.MaxNums+1), api.ErrFull},
			{'x', nil, api.ErrKind},
			{'a', nil, api.ErrKind},
			{'d', []int{-1}, api.ErrBound},
			{'a', []int{-1}, api.ErrBound},
		} {
			if f, err := s.Send(x.kind, x.nums); !reflect.DeepEqual(f, frame.Frame{}) || err != x.want || s.Waits() != api.MaxNums {
				t.Errorf("%c %d: %v, %v, want %v", x.kind, x.nums, f, err, x.want)
			}
		}
	}
	full()
	for k := 1; k < 300; k++ {
		s.Acked(k)
		sends(t, s, api.MaxNums+k-1)
		full()
	}
	s.Acked(400)
	for k := 499; k < 600; k++ {
		sends(t, s, k)
	}
	full()
}

// P110: numbers end where those of frames end. So many are not sent here: the sender is set there.
func TestSendLast(t *testing.T) {
	s, r := pair(t)
	s.next, r.due = api.MaxSeq-1, api.MaxSeq-1
	sends(t, s, api.MaxSeq-1)
	sends(t, s, api.MaxSeq)
	for _, x := range []struct {
		kind byte
		want error
	}{{'d', api.ErrBound}, {'a', api.ErrBound}, {'x', api.ErrKind}} {
		if f, err := s.Send(x.kind, nil); !reflect.DeepEqual(f, frame.Frame{}) || err != x.want || s.Waits() != 2 {
			t.Errorf("%c: %v, %v, want %v", x.kind, f, err, x.want)
		}
	}
	s.Tick()
	s.Tick()
	l := s.Tick()
	if want := all(api.MaxSeq-1, api.MaxSeq); texts(l) != want {
		t.Errorf("%s, want %s", texts(l), want)
	}
	for _, f := range l {
		if l, err := r.Take(f); texts(l) != all(f.Seq) || err != nil || r.Due() != f.Seq+1 {
			t.Errorf("%v: %v, %v, due %d", f, l, err, r.Due())
		}
	}
	if l, err := r.Take(of(api.MaxSeq)); len(l) > 0 || err != nil || r.Due() != api.MaxSeq+1 {
		t.Error(l, err, r.Due())
	}
	s.Acked(r.Due())
	if s.Waits() != 0 {
		t.Error(s.Waits())
	}
}

// P110: each is sent again when its own last sending was Resend ticks ago, in order of numbers, and no other one is.
func TestTick(t *testing.T) {
	s := begun(t, 2)
	for k, x := range []struct {
		want string // sent again at this tick
		more []int  // sent behind it
	}{
		{"", []int{2}},
		{"", []int{3, 4}},
		{all(0, 1), []int{5}},
		{all(2), nil},
		{all(3, 4), nil},
		{all(0, 1, 5), nil},
		{all(2), []int{6}},
		{all(3, 4), nil},
		{all(0, 1, 5), nil},
		{all(2, 6), nil},
	} {
		if got := texts(s.Tick()); got != x.want {
			t.Errorf("tick %d: %s, want %s", k+1, got, x.want)
		}
		for _, n := range x.more {
			sends(t, s, n)
		}
	}
	if s.Waits() != 7 {
		t.Error(s.Waits())
	}
}

// P110: what is answered is not sent again, also not at the tick that would; what is not goes on in its own time.
func TestTickAndAcked(t *testing.T) {
	s := begun(t, 2)
	s.Tick()
	sends(t, s, 2)
	s.Tick()
	s.Acked(1)
	for k, want := range []string{all(1), all(2), "", all(1)} {
		if got := texts(s.Tick()); got != want {
			t.Errorf("tick %d: %s, want %s", k+3, got, want)
		}
	}
	s.Acked(3)
	for range 2 * api.Resend {
		if l := s.Tick(); len(l) > 0 {
			t.Error(l)
		}
	}
}

// P110: all that are kept are sent again, as many as there may be, as they were sent, each time.
func TestTickOfAll(t *testing.T) {
	s := begun(t, api.MaxNums)
	want := all(from(0, api.MaxNums)...)
	for k := 1; k <= 4*api.Resend; k++ {
		got := texts(s.Tick())
		if k%api.Resend == 0 && got != want || k%api.Resend > 0 && got != "" {
			t.Fatalf("tick %d: %s", k, got)
		}
	}
}

// P110: those below a number are answered, of those that were sent; which it is told before, or later, or never was sent, makes no difference.
func TestAcked(t *testing.T) {
	for _, x := range []struct {
		acked []int
		first int // that is kept, of 0 to 4
	}{
		{[]int{math.MinInt}, 0},
		{[]int{-1}, 0},
		{[]int{0}, 0},
		{[]int{1}, 1},
		{[]int{2}, 2},
		{[]int{4}, 4},
		{[]int{5}, 5},
		{[]int{6}, 5},
		{[]int{1000000}, 5},
		{[]int{api.MaxSeq + 1}, 5},
		{[]int{math.MaxInt}, 5},
		{[]int{1, 2, 3}, 3},
		{[]int{3, 2, 1, 0, -1}, 3},
		{[]int{3, 3, 3}, 3},
		{[]int{3, 5}, 5},
		{[]int{5, 3}, 5},
		{[]int{math.MaxInt, math.MinInt, 2}, 5},
	} {
		s := begun(t, 5)
		for _, n := range x.acked {
			s.Acked(n)
		}
		if s.Waits() != 5-x.first {
			t.Errorf("%d: %d wait, want %d", x.acked, s.Waits(), 5-x.first)
		}
		sends(t, s, 5)
		s.Tick()
		s.Tick()
		if got, want := texts(s.Tick()), all(from(x.first, 6)...); got != want || s.Waits() != 6-x.first {
			t.Errorf("%d: %s, %d wait, want %s", x.acked, got, s.Waits(), want)
		}
	}
}

// model of a sender: which it keeps, and at which ticks each was sent last.
type model struct {
	next, now int
	seqs, at  []int
}

// tick of a model: those that are sent again.
func (m *model) tick() []int {
	m.now++
	var again []int
	for i, n := range m.seqs {
		if m.now-m.at[i] == api.Resend {
			m.at[i] = m.now
			again = append(again, n)
		}
	}
	return again
}

// P110: whatever is done, in any order, the sender does what one does that notes each frame and its time in lists.
func TestSenderAsModel(t *testing.T) {
	for seed := range 300 {
		d := dice(seed + 1)
		s, _ := pair(t)
		m := &model{}
		for range 400 {
			switch d.below(6) {
			case 0, 1, 2:
				modelSend(t, s, m)
			case 3, 4:
				if got, want := texts(s.Tick()), all(m.tick()...); got != want {
					t.Fatalf("seed %d, tick %d: %s, want %s", seed, m.now, got, want)
				}
			case 5:
				n := m.next - d.below(60) + 5
				s.Acked(n)
				for len(m.seqs) > 0 && m.seqs[0] < n {
					m.seqs, m.at = m.seqs[1:], m.at[1:]
				}
			}
			if s.Waits() != len(m.seqs) {
				t.Fatalf("seed %d: %d wait, want %d", seed, s.Waits(), len(m.seqs))
			}
		}
	}
}

// modelSend one frame more, if it may be.
func modelSend(t *testing.T, s *Sender, m *model) {
	t.Helper()
	if len(m.seqs) == api.MaxNums {
		if f, err := s.Send('d', nil); err != api.ErrFull {
			t.Fatal(f, err)
		}
		return
	}
	sends(t, s, m.next)
	m.seqs, m.at = append(m.seqs, m.next), append(m.at, m.now)
	m.next++
}

// P3, P4: numbers are only read, also behind their list's length, and not kept; what is answered is nobody else's.
func TestSenderMemory(t *testing.T) {
	s, _ := pair(t)
	whole := []int{7, 8, -5, -6}
	f, err := s.Send('d', whole[:2])
	if err != nil || !slices.Equal(whole, []int{7, 8, -5, -6}) {
		t.Fatal(whole, err)
	}
	whole[0], whole[1] = 99, 98
	if fmt.Sprint(f.Nums) != "[7 8]" {
		t.Error(f)
	}
	spoil([]frame.Frame{f})
	if !slices.Equal(whole, []int{99, 98, -5, -6}) {
		t.Error(whole)
	}
	for range 3 {
		s.Tick()
		s.Tick()
		l := s.Tick()
		if got := texts(l); got != "d24 0 [7 8];" {
			t.Error(got)
		}
		spoil(l)
	}
}
