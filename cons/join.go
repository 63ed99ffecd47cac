package cons

import "fingerpost/api"

// Asked is the node whose objects a rule's edges hang on (-1: they hang on none).
func (r Rule) Asked() int {
	switch r.Kind {
	case KindLoad, KindCall:
		return r.A
	case KindStore:
		return r.B
	}
	return -1
}

// Join joins the nodes that a rule joins because the node that it asks has object o, also a node with itself. The number of nodes and the functions are those of a program that is well: they are handed in, because prog.Nodes would check the whole program for each object.
func (r Rule) Join(nodes int, funs []api.Fun, o int, join func(from, to int)) {
	isNode := o < nodes
	switch {
	case r.Kind == KindLoad && isNode:
		join(o, r.B)
	case r.Kind == KindStore && isNode:
		join(r.A, o)
	case r.Kind == KindCall && !isNode:
		enter(funs[o-nodes], r, join)
	}
}

func enter(f api.Fun, r Rule, join func(from, to int)) {
	if len(f.Params) != len(r.Args) {
		return
	}
	for i, param := range f.Params {
		join(r.Args[i], param)
	}
	join(f.Ret, r.B)
}
