package link

import (
	"slices"
	"testing"

	"fingerpost/api"
	"fingerpost/frame"
)

// net of frames from one peer to the other one, as bytes, and of answers, each a number, back.
type net struct {
	dice    dice
	there   []string
	back    []int
	sent    []frame.Frame
	told    int
	sender  *Sender
	taker   *Receiver
	lost    int // of a hundred
	doubled int
	turned  int // turned around: else the first one that is under way comes first
}

// newNet between the peers of a pair.
func newNet(t *testing.T, seed, lost, doubled, turned int) *net {
	t.Helper()
	s, r := pair(t)
	return &net{dice: dice(seed + 1), sender: s, taker: r, lost: lost, doubled: doubled, turned: turned}
}

// is says whether a thing that comes about so many times of a hundred does now.
func (n *net) is(percent int) bool { return n.dice.below(100) < percent }

// out of the net comes one of those that are under way, but for those that are lost; it may come once more.
func out[T any](n *net, l *[]T) (x T, comes bool) {
	if len(*l) == 0 {
		return x, false
	}
	k := 0
	if n.is(n.turned) {
		k = n.dice.below(len(*l))
	}
	x = (*l)[k]
	if !n.is(n.doubled) {
		*l = slices.Delete(*l, k, k+1)
	}
	return x, !n.is(n.lost)
}

// put frames into the net.
func (n *net) put(t *testing.T, l ...frame.Frame) {
	t.Helper()
	for _, f := range l {
		s, err := frame.Encode(f)
		if err != nil {
			t.Fatal(f, err)
		}
		n.there = append(n.there, s)
	}
}

// send what no other frame has, if there is room.
func (n *net) send(t *testing.T) {
	t.Helper()
	kind, nums := "det"[len(n.sent)%3], []int{len(n.sent), n.dice.below(9)}
	f, err := n.sender.Send(kind, nums)
	if err == api.ErrFull {
		return
	}
	if err != nil || f.Seq != len(n.sent) || f.Kind != kind {
		t.Fatal(f, err)
	}
	n.sent = append(n.sent, f)
	n.put(t, f)
}

// comes: a frame does, if one is under way, and it is answered.
func (n *net) comes(t *testing.T) {
	t.Helper()
	s, comes := out(n, &n.there)
	if !comes {
		return
	}
	f, err := frame.Decode(s)
	if err != nil {
		t.Fatal(err)
	}
	l, err := n.taker.Take(f)
	if err != nil {
		t.Fatal(f, err)
	}
	n.tell(t, l)
	n.back = append(n.back, n.taker.Due())
}

// tell what came: it is asked whether it is what was sent, in order, each once.
func (n *net) tell(t *testing.T, l []frame.Frame) {
	t.Helper()
	if n.told+len(l) > len(n.sent) {
		t.Fatalf("%d were sent, %d told, then %v", len(n.sent), n.told, l)
	}
	if got, want := texts(l), texts(n.sent[n.told:n.told+len(l)]); got != want {
		t.Fatalf("when %d were told: %s, want %s", n.told, got, want)
	}
	n.told += len(l)
	if n.taker.Due() != n.told {
		t.Fatalf("due %d, %d were told", n.taker.Due(), n.told)
	}
}

// answered: an answer comes, as frames do. None that is not told yet is answered by it.
func (n *net) answered(t *testing.T) {
	t.Helper()
	due, comes := out(n, &n.back)
	if !comes {
		return
	}
	n.sender.Acked(due)
	if n.sender.Waits() < len(n.sent)-n.told {
		t.Fatalf("%d wait, of %d that were sent and %d told", n.sender.Waits(), len(n.sent), n.told)
	}
}

// nets from one where nothing goes wrong to one where most does.
func nets(t *testing.T, seed int) []*net {
	t.Helper()
	var l []*net
	for _, x := range [][3]int{{0, 0, 0}, {0, 0, 100}, {30, 0, 0}, {0, 40, 0}, {10, 10, 10}, {30, 60, 100}, {80, 20, 100}, {60, 95, 100}} {
		l = append(l, newNet(t, 100*seed+len(l), x[0], x[1], x[2]))
	}
	return l
}

// P112: in any net what is told is what was sent, in order, each once; and where it goes on, all is told, and nothing is kept.
func TestLossy(t *testing.T) {
	const count = 60
	for seed := range 12 {
		for i, n := range nets(t, seed) {
			for turn := 0; n.told < count || n.sender.Waits() > 0; turn++ {
				if turn > 100000 {
					t.Fatalf("seed %d, net %d: %d are told, %d wait", seed, i, n.told, n.sender.Waits())
				}
				if len(n.sent) < count {
					n.send(t)
				}
				if len(n.there) < 400 {
					n.put(t, n.sender.Tick()...)
				}
				for range 4 {
					n.comes(t)
					n.answered(t)
				}
			}
		}
	}
}

// P112: of more than are kept at once, and where whatever may happen is thrown.
func TestThrown(t *testing.T) {
	for seed := range 4 {
		for _, n := range nets(t, seed) {
			for range 3000 {
				switch n.dice.below(5) {
				case 0, 1:
					n.send(t)
				case 2:
					n.comes(t)
				case 3:
					n.answered(t)
				case 4:
					n.put(t, n.sender.Tick()...)
					n.there = n.there[max(0, len(n.there)-600):]
				}
			}
		}
	}
}

// P112: each way in which up to seven of five frames can come.
func TestEachWay(t *testing.T) {
	s, _ := pair(t)
	var sent []frame.Frame
	for k := range 5 {
		f, err := s.Send("det"[k%3], []int{k})
		if err != nil {
			t.Fatal(err)
		}
		sent = append(sent, f)
	}
	for way := range 5 * 5 * 5 * 5 * 5 * 5 * 5 {
		_, r := pair(t)
		var told []frame.Frame
		came, last := 0, way
		for range 7 {
			l, err := r.Take(sent[way%5])
			if err != nil {
				t.Fatal(err)
			}
			told = append(told, l...)
			came |= 1 << (way % 5)
			way /= 5
		}
		// As all that came can wait, those are told ahead of which none is missing.
		count := 0
		for came>>count&1 == 1 {
			count++
		}
		if texts(told) != texts(sent[:count]) || r.Due() != count {
			t.Fatalf("way %d: %s, due %d, want %d", last, texts(told), r.Due(), count)
		}
	}
}
