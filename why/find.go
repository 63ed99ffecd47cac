package why

import (
	"slices"

	"fingerpost/cons"
)

// fact: a node has an object.
type fact struct{ node, obj int }

func tells(s Step) fact { return fact{s.Node, s.Obj} }

// way that a statement makes to a node, by what a step tells.
type way struct{ to, stmt, by int }

// searcher of a proof.
type searcher struct {
	book  rulebook
	may   func(f fact) bool   // may a step tell it?
	asks  map[int][]cons.Rule // by the node that they ask
	ways  map[int][]way       // by the node that they lead from, one to each node
	steps []Step              // one for each fact that was found, each behind those that it hangs on
	told  map[fact]int        // the numbers of steps, by what they tell
	gone  map[int][]int       // the numbers of the steps that were gone on from, by node
}

// search finds steps until one tells what is wanted: that is the last one then. What was found first is gone on from first, so that few steps lead to each fact.
func (b rulebook) search(want fact, may func(f fact) bool) ([]Step, bool) {
	s := &searcher{book: b, may: may, asks: map[int][]cons.Rule{}, ways: map[int][]way{}, told: map[fact]int{}, gone: map[int][]int{}}
	for _, r := range b.rules {
		s.obey(r)
	}
	for next := 0; next < len(s.steps); next++ {
		if n, ok := s.told[want]; ok {
			return s.steps[:n+1], true
		}
		s.goOn(next)
	}
	return nil, false
}

// obey a rule from now on: nothing is gone on from yet.
func (s *searcher) obey(r cons.Rule) {
	switch r.Kind {
	case cons.KindBase:
		s.tell(Step{Node: r.A, Obj: r.B, Stmt: r.Stmt, From: none, By: none})
	case cons.KindCopy:
		s.open(r.A, way{to: r.B, stmt: r.Stmt, by: none})
	default:
		s.asks[r.Asked()] = append(s.asks[r.Asked()], r)
	}
}

func (s *searcher) tell(x Step) {
	f := tells(x)
	if _, ok := s.told[f]; ok || !s.may(f) {
		return
	}
	s.told[f] = len(s.steps)
	s.steps = append(s.steps, x)
}

// open a way: the steps that were gone on from ahead of it take it here, later ones by goOn.
func (s *searcher) open(from int, w way) {
	if slices.ContainsFunc(s.ways[from], func(o way) bool { return o.to == w.to }) {
		return
	}
	s.ways[from] = append(s.ways[from], w)
	for _, n := range s.gone[from] {
		s.take(w, n)
	}
}

// take a way with what step n tells.
func (s *searcher) take(w way, n int) {
	s.tell(Step{Node: w.to, Obj: s.steps[n].Obj, Stmt: w.stmt, From: n, By: w.by})
}

// goOn from step n. It counts as gone on from ahead of that, because a way that it opens may lead from its own node.
func (s *searcher) goOn(n int) {
	x := s.steps[n]
	s.gone[x.Node] = append(s.gone[x.Node], n)
	for _, w := range s.ways[x.Node] {
		s.take(w, n)
	}
	for _, r := range s.asks[x.Node] {
		r.Join(s.book.nodes, s.book.funs, x.Obj, func(from, to int) {
			s.open(from, way{to: to, stmt: r.Stmt, by: n})
		})
	}
}
