package cons

import (
	"cmp"
	"slices"

	"fingerpost/api"
	"fingerpost/prog"
	"fingerpost/set"
)

// Edge of nodes.
type Edge struct{ From, To int }

// Edges of a program, when nodes have these objects.
func Edges(p api.Program, has [][]int) ([]Edge, error) {
	if err := check(p, has); err != nil {
		return nil, err
	}
	return edges(p, rules(p), has), nil
}

// Closed: is an answer?
func Closed(p api.Program, has [][]int) (bool, error) {
	if err := check(p, has); err != nil {
		return false, err
	}
	l := rules(p)
	lacksBase := slices.ContainsFunc(l, func(r Rule) bool {
		return r.Kind == KindBase && !set.Has(has[r.A], r.B)
	})
	lacksEdge := slices.ContainsFunc(edges(p, l, has), func(e Edge) bool {
		return !set.Within(has[e.From], has[e.To])
	})
	return !lacksBase && !lacksEdge, nil
}

// check is told once for both calls, so that their errors can't differ.
func check(p api.Program, has [][]int) error {
	if err := prog.Check(p); err != nil {
		return err
	}
	if len(has) != prog.Nodes(p) {
		return api.ErrShape
	}
	objects := prog.Objects(p)
	for at, l := range has {
		if err := checkSet(l, objects); err != nil {
			return &api.Fault{At: at, Err: err}
		}
	}
	return nil
}

func checkSet(l []int, objects int) error {
	if err := set.Check(l); err != nil {
		return err
	}
	// The numbers of a set rise: no other one can be too great if the last is not.
	if len(l) > 0 && l[len(l)-1] >= objects {
		return api.ErrBound
	}
	return nil
}

// edges asks nothing any more: the program, its rules and the sets are well.
func edges(p api.Program, l []Rule, has [][]int) []Edge {
	var found []Edge
	for _, r := range l {
		follow(p, r, has, func(from, to int) { found = append(found, Edge{From: from, To: to}) })
	}
	return tidy(found)
}

// tidy lets go of edges that lead nowhere, and of those that several rules made.
func tidy(l []Edge) []Edge {
	l = slices.DeleteFunc(l, func(e Edge) bool { return e.From == e.To })
	slices.SortFunc(l, func(a, b Edge) int {
		return cmp.Or(cmp.Compare(a.From, b.From), cmp.Compare(a.To, b.To))
	})
	return slices.Compact(l)
}

// follow joins the nodes that a rule joins, when nodes have these objects.
func follow(p api.Program, r Rule, has [][]int, join func(from, to int)) {
	if r.Kind == KindCopy {
		join(r.A, r.B)
	}
	asked := r.Asked()
	if asked < 0 {
		return
	}
	for _, o := range has[asked] {
		r.Join(len(has), p.Funs, o, join)
	}
}
