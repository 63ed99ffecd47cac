package run

import (
	"fingerpost/api"
	"fingerpost/prog"
)

// cell is a variable, a thing or a function while a script is done. An address is a pointer to its cell, so that what is stored through one address shows through every other one.
type cell struct {
	is  Value
	has *cell // nil: none
}

// machine does statements of a program that is well, so that no number of a statement needs to be asked about again.
type machine struct {
	p                  api.Program
	vars, funs, things []*cell
	places             []int
}

func newMachine(p api.Program) *machine {
	return &machine{p: p, vars: newCells(KindVar, len(p.Vars)), funs: newCells(KindFun, len(p.Funs))}
}

func newCells(kind string, n int) []*cell {
	cells := make([]*cell, n)
	for i := range cells {
		cells[i] = &cell{is: Value{Kind: kind, N: i}}
	}
	return cells
}

func (m *machine) step(k int) {
	s := m.p.Stmts[k]
	x := m.vars[s.X]
	switch s.Kind {
	case prog.KindAddr:
		x.has = m.vars[s.Y]
	case prog.KindCopy:
		x.has = m.vars[s.Y].has
	case prog.KindLoad:
		if from := m.vars[s.Y].has; from.holds() {
			x.has = from.has
		}
	case prog.KindStore:
		if to := x.has; to.holds() {
			to.has = m.vars[s.Y].has
		}
	case prog.KindNew:
		x.has = m.newThing(k)
	case prog.KindFun:
		x.has = m.funs[s.Y]
	case prog.KindCall:
		m.call(x, m.vars[s.Y].has, s.Args)
	}
}

// holds: may it be loaded from, and stored to? A function has a cell only so that it can be pointed to.
func (c *cell) holds() bool {
	return c != nil && c.is.Kind != KindFun
}

func (m *machine) newThing(k int) *cell {
	c := &cell{is: Value{Kind: KindThing, N: len(m.things)}}
	m.things = append(m.things, c)
	m.places = append(m.places, k)
	return c
}

func (m *machine) call(x, callee *cell, args []int) {
	if callee == nil || callee.is.Kind != KindFun {
		return
	}
	f := m.p.Funs[callee.is.N]
	if len(f.Params) != len(args) {
		return
	}
	// All args are read ahead of the first param that is written, because a variable may be both.
	given := make([]*cell, len(args))
	for i, arg := range args {
		given[i] = m.vars[arg].has
	}
	for i, param := range f.Params {
		m.vars[param].has = given[i]
	}
	x.has = m.vars[f.Ret].has
}

func (m *machine) state() State {
	return State{Vars: values(m.vars), Things: values(m.things), Places: m.places}
}

func values(cells []*cell) []Value {
	l := make([]Value, len(cells))
	for i, c := range cells {
		l[i] = c.value()
	}
	return l
}

func (c *cell) value() Value {
	if c.has == nil {
		return Value{Kind: KindNone}
	}
	return c.has.is
}
