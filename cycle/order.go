package cycle

import (
	"slices"

	"fingerpost/cons"
)

// ordered takes the least group that waits for none, again and again, until all are there: no groups wait for each other in a ring, because they would be one.
func ordered(group []int, l []cons.Edge) []int {
	next, waits := between(group, l)
	free := func(g int) bool { return waits[g] == 0 }
	ready := slices.DeleteFunc(names(group), func(g int) bool { return !free(g) })
	var there []int
	for len(ready) > 0 {
		first := ready[0]
		ready = ready[1:]
		there = append(there, first)
		for _, g := range next[first] {
			waits[g]--
			if free(g) {
				at, _ := slices.BinarySearch(ready, g)
				ready = slices.Insert(ready, at, g)
			}
		}
	}
	return there
}

// between groups: those that a group's edges go to, and how many edges come to a group. An edge that stands often counts as often in both.
func between(group []int, l []cons.Edge) (next map[int][]int, waits map[int]int) {
	next, waits = map[int][]int{}, map[int]int{}
	for _, e := range l {
		from, to := group[e.From], group[e.To]
		if from == to {
			continue // a group need not wait for itself
		}
		next[from] = append(next[from], to)
		waits[to]++
	}
	return next, waits
}
