package calls

import (
	"fingerpost/api"
	"fingerpost/prog"
)

// These make functions that are asked, of a program that is well, when its nodes have these objects.

// pointedBy asks for the nodes that a node may have the address of.
func pointedBy(has [][]int) func(n int) []int {
	return func(n int) []int {
		var l []int
		for _, o := range has[n] {
			if o < len(has) {
				l = append(l, o)
			}
		}
		return l
	}
}

// calledBy asks for the functions that a statement may call: none of another one than a call.
func calledBy(p api.Program, has [][]int) func(s api.Stmt) []int {
	return func(s api.Stmt) []int {
		if s.Kind != prog.KindCall {
			return nil
		}
		var l []int
		for _, o := range has[s.Y] {
			// Functions stand behind all nodes.
			f := o - len(has)
			if f >= 0 && len(p.Funs[f].Params) == len(s.Args) {
				l = append(l, f)
			}
		}
		return l
	}
}

// changedBy asks for the nodes that a statement may change, in any order, however often.
func changedBy(p api.Program, has [][]int) func(s api.Stmt) []int {
	pointed, called := pointedBy(has), calledBy(p, has)
	return func(s api.Stmt) []int {
		switch s.Kind {
		case prog.KindStore:
			return pointed(s.X)
		case prog.KindCall:
			return calling(p, s.X, called(s))
		}
		// Also of a load that is idle: the document names x of all the others.
		return []int{s.X}
	}
}

// calling any of these functions changes their params, and x by what they answer.
func calling(p api.Program, x int, funs []int) []int {
	if len(funs) == 0 {
		return nil
	}
	l := []int{x}
	for _, f := range funs {
		l = append(l, p.Funs[f].Params...)
	}
	return l
}

// isIdle asks whether a statement can do nothing.
func isIdle(p api.Program, has [][]int) func(s api.Stmt) bool {
	pointed, called := pointedBy(has), calledBy(p, has)
	return func(s api.Stmt) bool {
		switch s.Kind {
		case prog.KindLoad:
			return len(pointed(s.Y)) == 0
		case prog.KindStore:
			return len(pointed(s.X)) == 0
		case prog.KindCall:
			return len(called(s)) == 0
		}
		return false
	}
}
