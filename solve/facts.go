package solve

import (
	"slices"

	"fingerpost/cons"
)

// fact: a node has an object.
type fact struct{ node, obj int }

// obey a rule from now on, also for what came ahead of it.
func (s *Solver) obey(r cons.Rule) {
	switch r.Kind {
	case cons.KindBase:
		s.await(fact{r.A, r.B})
	case cons.KindCopy:
		s.join(r.A, r.B)
	default:
		asked := r.Asked()
		s.rules[asked] = append(s.rules[asked], r)
		for _, o := range s.has[asked] {
			r.Join(len(s.has), s.p.Funs, o, s.join)
		}
	}
}

// join makes an edge: what came to its From is handed on here, what comes later by come.
func (s *Solver) join(from, to int) {
	if from == to || slices.Contains(s.edges[from], to) {
		return
	}
	s.edges[from] = append(s.edges[from], to)
	for _, o := range s.has[from] {
		s.await(fact{to, o})
	}
}

func (s *Solver) await(f fact) {
	if _, ok := s.known[f]; ok {
		return
	}
	s.known[f] = struct{}{}
	s.due = append(s.due, f)
}

// come lets the last fact that is due come, and finds what follows from it. The node has it ahead of that, because edges that are made meanwhile hand on all that it has.
func (s *Solver) come() {
	last := len(s.due) - 1
	f := s.due[last]
	s.due = s.due[:last]
	at, _ := slices.BinarySearch(s.has[f.node], f.obj)
	s.has[f.node] = slices.Insert(s.has[f.node], at, f.obj)
	for _, to := range s.edges[f.node] {
		s.await(fact{to, f.obj})
	}
	for _, r := range s.rules[f.node] {
		r.Join(len(s.has), s.p.Funs, f.obj, s.join)
	}
}
