package solve

import (
	"fmt"
	"math"
	"slices"
	"testing"

	"fingerpost/api"
	"fingerpost/prog"
)

// P61: a statement of each kind comes when all is done: there is more to do if and only if it brings something.
func TestAddOfStatement(t *testing.T) {
	const text = "var a\nvar b\nvar c\nvar d\nfn f(a) d\nfn g() c\na = &b\nb = &c\nc = new\nd = fn f\n"
	before := "[[1] [2] [4] [5] []]"
	for _, x := range []struct {
		add  api.Stmt
		want string
		came int
	}{
		{api.Stmt{Kind: "addr", X: 0, Y: 1}, before, 0},
		{api.Stmt{Kind: "addr", X: 0, Y: 0}, "[[0 1] [2] [4] [5] []]", 1},
		{api.Stmt{Kind: "fun", X: 3, Y: 0}, before, 0},
		{api.Stmt{Kind: "fun", X: 3, Y: 1}, "[[1] [2] [4] [5 6] []]", 1},
		{api.Stmt{Kind: "copy", X: 2, Y: 2}, before, 0},
		{api.Stmt{Kind: "copy", X: 2, Y: 0}, "[[1] [2] [1 4] [5] []]", 1},
		{api.Stmt{Kind: "load", X: 3, Y: 0}, "[[1] [2] [4] [2 5] []]", 1},
		{api.Stmt{Kind: "load", X: 1, Y: 0}, before, 0},
		{api.Stmt{Kind: "load", X: 0, Y: 2}, before, 0},
		{api.Stmt{Kind: "load", X: 0, Y: 3}, before, 0},
		{api.Stmt{Kind: "store", X: 2, Y: 0}, "[[1] [2] [4] [5] [1]]", 1},
		{api.Stmt{Kind: "store", X: 0, Y: 3}, "[[1] [2 5] [4] [5] []]", 1},
		{api.Stmt{Kind: "store", X: 3, Y: 0}, before, 0},
		{api.Stmt{Kind: "call", X: 1, Y: 3, Args: []int{1}}, "[[1 2 5] [2 5] [4] [5] []]", 3},
		{api.Stmt{Kind: "call", X: 1, Y: 3}, before, 0},
		{api.Stmt{Kind: "call", X: 1, Y: 3, Args: []int{1, 1}}, before, 0},
		{api.Stmt{Kind: "call", X: 1, Y: 0, Args: []int{1}}, before, 0},
	} {
		s := begun(t, read(t, text))
		s.Run()
		if got := fmt.Sprint(now(s, 5)); got != before {
			t.Fatal(got)
		}
		err := s.Add(x.add)
		if got := fmt.Sprint(now(s, 5)); got != before || err != nil || s.Done() != (x.came == 0) {
			t.Errorf("%v: at once %s, %v, %v", x.add, got, s.Done(), err)
		}
		came := s.Run()
		if got := fmt.Sprint(now(s, 5)); got != x.want || came != x.came {
			t.Errorf("%v: %s, %d came, want %s, %d", x.add, got, came, x.want, x.came)
		}
	}
}

// late takes statements out of a program, none of kind new: the solver begins without them.
func late(d *dice, p api.Program) (first api.Program, rest []api.Stmt) {
	first = p
	first.Stmts = nil
	for _, x := range p.Stmts {
		if x.Kind != "new" && d.below(3) > 0 {
			rest = append(rest, x)
		} else {
			first.Stmts = append(first.Stmts, x)
		}
	}
	return first, rest
}

// P61, P62: statements come later, in any order, at any time: at each time it has no more than the least answer of those that came, at the end all of it.
func TestAddLater(t *testing.T) {
	d := dice(3)
	for _, p := range many() {
		for _, size := range []int{0, 1, 4, math.MaxInt} {
			so, rest := late(&d, p)
			s := begun(t, so)
			came := s.Step(size)
			if d.below(2) == 0 {
				slices.Reverse(rest)
			}
			for _, x := range rest {
				before := now(s, prog.Nodes(p))
				if err := s.Add(x); err != nil {
					t.Fatalf("%s, then %v: %v", prog.Text(so), x, err)
				}
				so.Stmts = append(so.Stmts, x)
				if after := sameState(t, so, s, least(t, so)); !same(before, after) {
					t.Fatalf("%s: %v, and when %v was added %v", prog.Text(so), before, x, after)
				}
				came += s.Step(size)
			}
			if all := count(now(s, prog.Nodes(p))); came != all {
				t.Fatalf("%s: it told of %d, and %d came", prog.Text(so), came, all)
			}
			stepped(t, so, s, math.MaxInt)
			if want := least(t, p); !same(now(s, len(want)), want) {
				t.Fatalf("%s: %v, want %v", prog.Text(p), now(s, len(want)), want)
			}
		}
	}
}

// P61, P62: what is added is followed by rules, step by step.
func TestStepsWhenAdded(t *testing.T) {
	d := dice(5)
	for _, p := range many()[:60] {
		so, rest := late(&d, p)
		s := begun(t, so)
		for _, x := range rest {
			if err := s.Add(x); err != nil {
				t.Fatal(err)
			}
			so.Stmts = append(so.Stmts, x)
			stepped(t, so, s, 1+d.below(9))
		}
	}
}

// P61: errors, bare, and nothing changes by them.
func TestAddWrong(t *testing.T) {
	const text = "var a\nvar b\nvar c\nfn f(a) b\nfn g() c\na = &b\nb = new\nc = a\n"
	for _, x := range []struct {
		add  api.Stmt
		want error
	}{
		{api.Stmt{Kind: "new"}, api.ErrKind},
		{api.Stmt{Kind: "new", X: 9, Y: 1, Args: []int{-1}}, api.ErrKind},
		{api.Stmt{}, api.ErrKind},
		{api.Stmt{Kind: "what", X: -1}, api.ErrKind},
		{api.Stmt{Kind: "New"}, api.ErrKind},
		{api.Stmt{Kind: "base"}, api.ErrKind},
		{api.Stmt{Kind: "addr", X: 3}, api.ErrBound},
		{api.Stmt{Kind: "addr", Y: 3}, api.ErrBound},
		{api.Stmt{Kind: "copy", X: -1}, api.ErrBound},
		{api.Stmt{Kind: "copy", Y: math.MaxInt}, api.ErrBound},
		{api.Stmt{Kind: "load", Y: math.MinInt}, api.ErrBound},
		{api.Stmt{Kind: "store", X: 3, Args: []int{0}}, api.ErrBound},
		{api.Stmt{Kind: "fun", Y: 2}, api.ErrBound},
		{api.Stmt{Kind: "fun", Y: -1}, api.ErrBound},
		{api.Stmt{Kind: "call", Args: []int{0, 3}}, api.ErrBound},
		{api.Stmt{Kind: "call", Args: []int{0, 0, 0, 3}}, api.ErrBound},
		{api.Stmt{Kind: "call", Args: []int{0, 0, 0, 0}}, api.ErrArgs},
		{api.Stmt{Kind: "addr", Args: []int{0}}, api.ErrShape},
		{api.Stmt{Kind: "copy", Args: []int{0}}, api.ErrShape},
		{api.Stmt{Kind: "load", Args: []int{0}}, api.ErrShape},
		{api.Stmt{Kind: "store", Args: make([]int, 4)}, api.ErrShape},
		{api.Stmt{Kind: "fun", Args: []int{0}}, api.ErrShape},
	} {
		for ahead := range 4 {
			s := begun(t, read(t, text))
			s.Step(ahead)
			before, done := now(s, 4), s.Done()
			for range api.MaxStmts {
				if err := s.Add(x.add); err != x.want {
					t.Fatalf("%v: %v, want %v", x.add, err, x.want)
				}
			}
			if !same(now(s, 4), before) || s.Done() != done || s.Run() != 3-ahead || fmt.Sprint(now(s, 4)) != "[[1] [3] [1] []]" {
				t.Errorf("%v, when %d came: changed: %v, then %v", x.add, ahead, before, now(s, 4))
			}
		}
	}
}

// P61: as many as a program may have, with those that it began with; the whole is asked ahead of the statement, but new is none at any time.
func TestAddFull(t *testing.T) {
	for _, first := range []int{0, 1, api.MaxStmts - 1, api.MaxStmts} {
		p := api.Program{Vars: []string{"a", "b"}}
		for range first {
			p.Stmts = append(p.Stmts, api.Stmt{Kind: "new"})
		}
		s := begun(t, p)
		for k := first; k < api.MaxStmts; k++ {
			if err := s.Add(api.Stmt{Kind: "copy", X: 1, Y: 0}); err != nil {
				t.Fatal(first, k, err)
			}
		}
		for _, x := range []api.Stmt{{Kind: "copy"}, {Kind: "addr", X: 1}, {Kind: "addr", X: 9}, {Kind: "what"}, {Kind: "call", Args: make([]int, 4)}} {
			if err := s.Add(x); err != api.ErrFull {
				t.Errorf("%d, then %v: %v", first, x, err)
			}
		}
		if err := s.Add(api.Stmt{Kind: "new"}); err != api.ErrKind {
			t.Error(first, err)
		}
		want := first
		if first < api.MaxStmts {
			want *= 2
		}
		if came := s.Run(); came != want || len(s.Has(0)) != first {
			t.Error(first, came, s.Has(0), s.Has(1))
		}
	}
}

// P3, P4: a statement's Args are only read, and not kept.
func TestArgsAreNotKept(t *testing.T) {
	args := []int{0, -9}
	x := api.Stmt{Kind: "call", X: 2, Y: 0, Args: args[:1]}
	s := begun(t, read(t, "var f\nvar x\nvar y\nfn id(x) x\n"))
	if err := s.Add(x); err != nil || args[1] != -9 {
		t.Fatal(args, err)
	}
	args[0] = 9
	if err := s.Add(api.Stmt{Kind: "fun"}); err != nil {
		t.Fatal("kept:", err)
	}
	if came := s.Run(); came != 3 || fmt.Sprint(now(s, 3)) != "[[3] [3] [3]]" {
		t.Error("kept:", came, now(s, 3))
	}
}
