package link

import (
	"fingerpost/api"
	"fingerpost/frame"
)

// Receiver of a link.
type Receiver struct {
	ends  ends
	due   int
	waits map[int]frame.Frame // by number: between calls, all are above due
}

// NewReceiver of a link.
func NewReceiver(from, to int) (*Receiver, error) {
	e, err := newEnds(from, to)
	if err != nil {
		return nil, err
	}
	return &Receiver{ends: e, waits: map[int]frame.Frame{}}, nil
}

// Take a frame.
func (r *Receiver) Take(f frame.Frame) ([]frame.Frame, error) {
	if err := r.check(f); err != nil {
		return nil, err
	}
	if r.wants(f.Seq) {
		r.waits[f.Seq] = copied(f)
	}
	return r.tell(), nil
}

func (r *Receiver) check(f frame.Frame) error {
	if err := frame.Check(f); err != nil {
		return err
	}
	if !r.ends.have(f) || f.Kind == frame.KindAnswer {
		return api.ErrShape
	}
	return nil
}

// wants says whether a number is neither told nor waiting, and there is room: one that is due needs none, for it goes at once.
func (r *Receiver) wants(n int) bool {
	if n <= r.due {
		return n == r.due
	}
	_, waits := r.waits[n]
	return !waits && len(r.waits) < api.MaxBuffer
}

// tell what is due, as long as it is there.
func (r *Receiver) tell() []frame.Frame {
	var told []frame.Frame
	for {
		f, is := r.waits[r.due]
		if !is {
			return told
		}
		delete(r.waits, r.due)
		told = append(told, f)
		r.due++
	}
}

// Due number.
func (r *Receiver) Due() int { return r.due }
