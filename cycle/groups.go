package cycle

import (
	"slices"

	"fingerpost/cons"
)

// leastOnes tells of each node the least one of its group. Of the nodes that have no group yet, none of another group comes to the one that was left last: so a walk against the edges from it finds its group, and no more.
func leastOnes(n int, l []cons.Edge) []int {
	along, against := neighbours(l)
	left := leftOrder(n, along)
	group, seen := make([]int, n), map[int]struct{}{}
	for _, node := range slices.Backward(left) {
		var members []int
		walk(against, seen, node, func(m int) { members = append(members, m) })
		slices.Sort(members)
		for _, m := range members {
			group[m] = members[0]
		}
	}
	return group
}

// neighbours of each node: those that its edges go to, and those that they come from.
func neighbours(l []cons.Edge) (along, against map[int][]int) {
	along, against = map[int][]int{}, map[int][]int{}
	for _, e := range l {
		along[e.From] = append(along[e.From], e.To)
		against[e.To] = append(against[e.To], e.From)
	}
	return along, against
}

// leftOrder of all nodes: a node behind those that it was walked on to.
func leftOrder(n int, next map[int][]int) []int {
	var left []int
	seen := map[int]struct{}{}
	for node := range n {
		walk(next, seen, node, func(m int) { left = append(left, m) })
	}
	return left
}

// walk goes from a node to all that can be come to and were not seen yet, and leaves each behind those that it goes on to. It goes no deeper than there are nodes.
func walk(next map[int][]int, seen map[int]struct{}, node int, leave func(m int)) {
	if _, was := seen[node]; was {
		return
	}
	seen[node] = struct{}{}
	for _, m := range next[node] {
		walk(next, seen, m, leave)
	}
	leave(node)
}

// names of groups, rising: a group is called by its least node.
func names(group []int) []int {
	var l []int
	for node, least := range group {
		if node == least {
			l = append(l, node)
		}
	}
	return l
}
