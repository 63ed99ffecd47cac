package why

import (
	"slices"
	"strconv"
	"testing"

	"fingerpost/api"
	"fingerpost/fix"
	"fingerpost/prog"
)

// sample has every kind of statement:
//
//	0 a = &b   1 c = a   2 b = new   3 d = *a   4 *a = c   5 c = fn f   6 d = call c(b, a)   7 c = fn g   8 a = call c()
//
// Its nodes are a, b, c, d and the place 4; f is the object 5, and g 6.
const sample = "var a\nvar b\nvar c\nvar d\nfn f(d, c) b\nfn g() d\na = &b\nc = a\nb = new\nd = *a\n*a = c\nc = fn f\nd = call c(b, a)\nc = fn g\na = call c()\n"

func read(t *testing.T, text string) api.Program {
	t.Helper()
	p, err := prog.Read(text)
	if err != nil {
		t.Fatalf("%q: %v", text, err)
	}
	return p
}

func least(t *testing.T, p api.Program) [][]int {
	t.Helper()
	l, _, err := fix.Least(p)
	if err != nil {
		t.Fatal(prog.Text(p), err)
	}
	return l
}

func count(has [][]int) int {
	n := 0
	for _, l := range has {
		n += len(l)
	}
	return n
}

// steps of numbers, five by five: node, object, statement, from, by.
func steps(l ...int) []Step {
	var out []Step
	for s := range slices.Chunk(l, 5) {
		out = append(out, Step{Node: s[0], Obj: s[1], Stmt: s[2], From: s[3], By: s[4]})
	}
	return out
}

// sameError: at -1 asks for the bare error, else for a Fault there.
func sameError(err error, at int, want error) bool {
	if at < 0 {
		return err == want
	}
	f, ok := err.(*api.Fault)
	return ok && f.At == at && f.Err == want
}

// wantStep tells by the document's words, statement by statement, what is wrong with a step behind well ones.
func wantStep(p api.Program, ahead []Step, s Step) error {
	isAhead := func(n int) bool { return n >= -1 && n < len(ahead) }
	if s.Stmt < 0 || s.Stmt >= len(p.Stmts) || !isAhead(s.From) || !isAhead(s.By) {
		return api.ErrBound
	}
	x := p.Stmts[s.Stmt]
	hasFrom := slices.Contains([]string{"copy", "load", "store", "call"}, x.Kind)
	hasBy := hasFrom && x.Kind != "copy"
	if hasFrom != (s.From >= 0) || hasBy != (s.By >= 0) {
		return api.ErrShape
	}
	var from, by Step
	if hasFrom {
		from = ahead[s.From]
	}
	if hasBy {
		by = ahead[s.By]
	}
	if !wantFollows(p, x, s, from, by) {
		return api.ErrNone
	}
	return nil
}

func wantFollows(p api.Program, x api.Stmt, s, from, by Step) bool {
	oneObj := from.Obj == s.Obj
	switch x.Kind {
	case "addr":
		return s.Node == x.X && s.Obj == x.Y
	case "new":
		return s.Node == x.X && s.Obj == prog.Place(p, s.Stmt)
	case "fun":
		return s.Node == x.X && prog.Fun(p, s.Obj) == x.Y
	case "copy":
		return from.Node == x.Y && s.Node == x.X && oneObj
	case "load":
		return by.Node == x.Y && by.Obj == from.Node && s.Node == x.X && oneObj
	case "store":
		return by.Node == x.X && by.Obj < prog.Nodes(p) && s.Node == by.Obj && from.Node == x.Y && oneObj
	}
	fun := prog.Fun(p, by.Obj)
	if by.Node != x.Y || fun < 0 || len(p.Funs[fun].Params) != len(x.Args) || !oneObj {
		return false
	}
	f := p.Funs[fun]
	for i, param := range f.Params {
		if s.Node == param && from.Node == x.Args[i] {
			return true
		}
	}
	return s.Node == x.X && from.Node == f.Ret
}

// wantCheck goes by wantStep from the first step on.
func wantCheck(p api.Program, l []Step) (at int, err error) {
	for at, s := range l {
		if err := wantStep(p, l[:at], s); err != nil {
			return at, err
		}
	}
	return -1, nil
}

// dice throws the same numbers every time, so that a test that fails fails again.
type dice uint32

func (d *dice) below(n int) int {
	*d ^= *d << 13
	*d ^= *d >> 17
	*d ^= *d << 5
	return int(uint32(*d) % uint32(n))
}

func (d *dice) list(n, below int) []int {
	l := make([]int, n)
	for i := range l {
		l[i] = d.below(below)
	}
	return l
}

// thrown is a program of so many statements.
func (d *dice) thrown(vars, funs, stmts int) api.Program {
	p := api.Program{Vars: names(vars)}
	for i := range funs {
		params := d.list(d.below(api.MaxParams+1), vars)
		slices.Sort(params) // no two of them may be one
		p.Funs = append(p.Funs, api.Fun{Name: "f" + strconv.Itoa(i), Params: slices.Compact(params), Ret: d.below(vars)})
	}
	kinds := []string{"addr", "new", "copy", "load", "store", "call"}
	for range stmts {
		x := api.Stmt{Kind: kinds[d.below(len(kinds))], X: d.below(vars), Y: d.below(vars)}
		switch {
		case x.Kind == "new":
			x.Y = 0
		case x.Kind == "addr" && funs > 0 && d.below(2) == 0:
			x.Kind, x.Y = "fun", d.below(funs)
		case x.Kind == "call":
			x.Args = d.list(d.below(api.MaxParams+1), vars)
		}
		p.Stmts = append(p.Stmts, x)
	}
	return p
}

// names are v0, v1 and so on.
func names(n int) []string {
	l := make([]string, n)
	for i := range l {
		l[i] = "v" + strconv.Itoa(i)
	}
	return l
}

// small programs, in which each kind of statement can do something, and fail to.
func small(t *testing.T) []api.Program {
	return []api.Program{
		read(t, "var a\na = &a\na = a\na = *a\n*a = a\n"),
		read(t, "var a\nvar b\nfn g() b\na = fn g\nb = new\na = call a()\nb = call a(a)\n*a = b\n"),
		read(t, "var a\nvar b\nfn f(b) b\na = fn f\na = call a(a)\n*b = a\nb = &b\n"),
		read(t, "var a\nvar b\nvar c\nfn f(b, c) a\na = fn f\nc = call a(c, a)\nb = *c\nc = new\n"),
	}
}
