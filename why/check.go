package why

import (
	"fingerpost/api"
	"fingerpost/cons"
)

// checkStep behind those ahead of it, which are well: so their nodes and objects are some of the program's.
func (b rulebook) checkStep(ahead []Step, s Step) error {
	isAhead := func(n int) bool { return none <= n && n < len(ahead) }
	if s.Stmt < 0 || s.Stmt >= len(b.rules) || !isAhead(s.From) || !isAhead(s.By) {
		return api.ErrBound
	}
	r := b.rules[s.Stmt]
	hasFrom, hasBy := r.Kind != cons.KindBase, r.Asked() != none
	if hasFrom != (s.From != none) || hasBy != (s.By != none) {
		return api.ErrShape
	}
	if !b.follows(ahead, s, r) {
		return api.ErrNone
	}
	return nil
}

func (b rulebook) follows(ahead []Step, s Step, r cons.Rule) bool {
	if r.Kind == cons.KindBase {
		return s.Node == r.A && s.Obj == r.B
	}
	from := ahead[s.From]
	if from.Obj != s.Obj {
		return false
	}
	if r.Kind == cons.KindCopy {
		return from.Node == r.A && s.Node == r.B
	}
	by := ahead[s.By]
	return by.Node == r.Asked() && b.joins(r, by.Obj, from.Node, s.Node)
}

// joins: does a rule join two nodes because the node that it asks has the object?
func (b rulebook) joins(r cons.Rule, obj, from, to int) bool {
	found := false
	r.Join(b.nodes, b.funs, obj, func(f, t int) { found = found || f == from && t == to })
	return found
}
