package link

import (
	"fingerpost/api"
	"fingerpost/frame"
)

// Sender of a link.
type Sender struct {
	ends ends
	next int
	kept map[int]sent // by number: the last ones below next, for those ahead of them are answered
}

// sent frame, and how many ticks ago that was.
type sent struct {
	frame frame.Frame
	ago   int
}

// NewSender of a link.
func NewSender(from, to int) (*Sender, error) {
	e, err := newEnds(from, to)
	if err != nil {
		return nil, err
	}
	return &Sender{ends: e, kept: map[int]sent{}}, nil
}

// Send numbers.
func (s *Sender) Send(kind byte, nums []int) (frame.Frame, error) {
	f := s.ends.frame(kind, s.next, nums)
	if err := s.check(f); err != nil {
		return frame.Frame{}, err
	}
	s.kept[s.next] = sent{frame: copied(f)}
	s.next++
	return copied(f), nil
}

func (s *Sender) check(f frame.Frame) error {
	if err := frame.Check(f); err != nil {
		return err
	}
	switch {
	case f.Kind == frame.KindAnswer:
		return api.ErrKind
	case len(s.kept) >= api.MaxNums:
		return api.ErrFull
	}
	return nil
}

// Tick once.
func (s *Sender) Tick() []frame.Frame {
	var again []frame.Frame
	for n := s.first(); n < s.next; n++ {
		k := s.kept[n]
		k.ago++
		if k.ago == api.Resend {
			again = append(again, copied(k.frame))
			k.ago = 0
		}
		s.kept[n] = k
	}
	return again
}

// Acked below a number.
func (s *Sender) Acked(n int) {
	for i := s.first(); i < min(n, s.next); i++ {
		delete(s.kept, i)
	}
}

// Waits: how many are kept.
func (s *Sender) Waits() int { return len(s.kept) }

// first number that is kept; next, if none is.
func (s *Sender) first() int { return s.next - len(s.kept) }
