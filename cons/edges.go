package cons

import (
	"cmp"
	"slices"

	"fingerpost/api"
	"fingerpost/prog"
	"fingerpost/set"
)

// Edge of nodes.
type Edge struct{ From, To int }

// Edges of a program, when nodes have these objects.
func Edges(p api.Program, has [][]int) ([]Edge, error) {
	if err := check(p, has); err != nil {
		return nil, err
	}
	return edges(p, rules(p), has), nil
}

// Closed: is an answer?
func Closed(p api.Program, has [][]int) (bool, error) {
	if err := check(p, has); err != nil {
		return false, err
	}
	l := rules(p)
	lacksBase := slices.ContainsFunc(l, func(r Rule) bool {
		return r.Kind == KindBase && !set.Has(has[r.A], r.B)
	})
	lacksEdge := slices.ContainsFunc(edges(p, l, has), func(e Edge) bool {
		return !set.Within(has[e.From], has[e.To])
	})
	return !lacksBase && !lacksEdge, nil
}

// check is told once for both calls, so that their errors can't differ.
func check(p api.Program, has [][]int) error {
	if err := prog.Check(p); err != nil {
		return err
	}
	if len(has) != prog.Nodes(p) {
		return api.ErrShape
	}
	objects := prog.Objects(p)
	for at, l := range has {
		if err := checkSet(l, objects); err != nil {
			return &api.Fault{At: at, Err: err}
		}
	}
	return nil
}

func checkSet(l []int, objects int) error {
	if err := set.Check(l); err != nil {
		return err
	}
	// The numbers of a set rise: no other one can be too great if the last is not.
	if len(l) > 0 && l[len(l)-1] >= objects {
		return api.ErrBound
	}
	return nil
}

// edges asks nothing any more: the program, its rules and the sets are well.
func edges(p api.Program, l []Rule, has [][]int) []Edge {
	var found []Edge
	for _, r := range l {
		follow(p, r, has, func(from, to int) { found = append(found, Edge{From: from, To: to}) })
	}
	return tidy(found)
}

// tidy lets go of edges that lead nowhere, and of those that several rules made.
func tidy(l []Edge) []Edge {
	l = slices.DeleteFunc(l, func(e Edge) bool { return e.From == e.To })
	slices.SortFunc(l, func(a, b Edge) int {
		return cmp.Or(cmp.Compare(a.From, b.From), cmp.Compare(a.To, b.To))
	})
	return slices.Compact(l)
}

// follow joins the nodes that a rule joins, when nodes have these objects.
func follow(p api.Program, r Rule, has [][]int, join func(from, to int)) {
	nodes := len(has)
	switch r.Kind {
	case KindCopy:
		join(r.A, r.B)
	case KindLoad:
		pointed, _ := part(has[r.A], nodes)
		for _, o := range pointed {
			join(o, r.B)
		}
	case KindStore:
		pointed, _ := part(has[r.B], nodes)
		for _, o := range pointed {
			join(r.A, o)
		}
	case KindCall:
		_, called := part(has[r.A], nodes)
		for _, o := range called {
			enter(p.Funs[o-nodes], r, join)
		}
	}
}

// part takes a set apart: functions are numbered behind all nodes, so they are its end.
func part(l []int, nodes int) (pointed, called []int) {
	first, _ := slices.BinarySearch(l, nodes)
	return l[:first], l[first:]
}

func enter(f api.Fun, r Rule, join func(from, to int)) {
	if len(f.Params) != len(r.Args) {
		return
	}
	for i, param := range f.Params {
		join(r.Args[i], param)
	}
	join(f.Ret, r.B)
}
