package calls

import (
	"fmt"
	"math"
	"reflect"
	"slices"
	"testing"

	"fingerpost/api"
	"fingerpost/prog"
)

// sample has every kind of statement, some that can do something and some that can't:
//
//	0 a = &b   1 b = new   2 c = fn f   3 c = fn g   4 d = call c(a)   5 c = *a   6 *a = d
//	7 d = *e   8 *e = a    9 e = fn h  10 d = call e(a)  11 d = call a(a)  12 d = *e  13 d = call e()
//
// Its nodes are a, b, c, d, e and the place 5; f, g and h are the objects 6, 7 and 8. The answer: a {1}, b {1 5}, c {1 5 6 7}, d {1}, e {8}, the place {}.
const sample = "var a\nvar b\nvar c\nvar d\nvar e\nfn f(b) a\nfn g(d) a\nfn h() a\n" +
	"a = &b\nb = new\nc = fn f\nc = fn g\nd = call c(a)\nc = *a\n*a = d\n" +
	"d = *e\n*e = a\ne = fn h\nd = call e(a)\nd = call a(a)\nd = *e\nd = call e()\n"

// P90: of each call, in order, the functions that may be called, rising.
func TestGraph(t *testing.T) {
	const head = "var a\nvar b\nvar c\nfn f() a\nfn g() b\nfn h(a) a\nfn i(a, b, c) a\n"
	for _, x := range []struct{ text, want string }{
		{"", "[]"},
		{"var a\nfn f() a\na = a\na = *a\n*a = a\na = new\na = &a\na = fn f\n", "[]"},
		{head + "a = call b()\n", "[]"},
		{head + "a = fn f\nb = call a()\n", "[{1 0}]"},
		{head + "b = call a()\na = fn f\n", "[{0 0}]"},
		{head + "a = fn f\na = &a\na = new\nb = call a()\n", "[{3 0}]"},
		{head + "a = fn i\na = fn h\na = fn g\na = fn f\nb = call a()\n", "[{4 0} {4 1}]"},
		{head + "b = call a(a)\na = fn i\nb = call a(a, b, b)\na = fn h\nb = call a()\nb = call a(a, a)\n", "[{0 2} {2 3}]"},
		{head + "b = call a()\nb = a\nb = call b()\na = fn g\nb = fn f\na = call b()\n", "[{0 0} {0 1} {2 0} {2 1} {5 0} {5 1}]"},
		{head + "b = call a()\nb = call a()\na = fn f\n", "[{0 0} {1 0}]"},
		{head + "a = fn f\na = fn f\nb = call a()\n", "[{2 0}]"},
		// A function that only a call answers, and one that only a thing has.
		{head + "a = fn g\nb = fn f\nc = call a()\na = call c()\n", "[{2 1} {3 0}]"},
		{head + "a = new\nb = fn h\n*a = b\nc = *a\nb = call c(c)\n", "[{4 2}]"},
		{sample, "[{4 0} {4 1} {13 2}]"},
	} {
		l, err := Graph(read(t, x.text))
		if got := fmt.Sprint(l); got != x.want || err != nil {
			t.Errorf("%q: %s, %v, want %s", x.text, got, err, x.want)
		}
	}
}

// P90: an object in common, whatever it is, is asked for, not a node that has the other one's address.
func TestAlias(t *testing.T) {
	p := read(t, "var a\nvar b\nvar c\nvar d\nvar e\nvar f\nfn g() a\na = &b\nb = &c\nc = &b\nc = &d\nd = new\ne = fn g\nd = e\n*d = d\n")
	// a {1}, b {2}, c {1 3}, d {6 7}, e {7}, f {}, the place {6 7}.
	common := [][]int{{0, 2}, {1}, {0, 2}, {3, 4, 6}, {3, 4, 6}, nil, {3, 4, 6}}
	for x := range common {
		for y := range common {
			want := false
			for _, n := range common[x] {
				want = want || n == y
			}
			if is, err := Alias(p, x, y); is != want || err != nil {
				t.Errorf("%d, %d: %v, %v, want %v", x, y, is, err, want)
			}
		}
	}
}

// P90: what a statement may change, by each kind of it.
func TestWrites(t *testing.T) {
	for k, want := range map[int]string{
		0: "[0]", 1: "[1]", 2: "[2]", 3: "[2]",
		4: "[1 3]", // x is a param of g
		5: "[2]",
		6: "[1]", // not what a has for itself
		7: "[3]", // a load has x, also if it is idle
		8: "[]", 9: "[4]", 10: "[]", 11: "[]", 12: "[3]",
		13: "[3]", // h has no Params
	} {
		if l, err := Writes(read(t, sample), k); fmt.Sprint(l) != want || err != nil {
			t.Errorf("%d: %v, %v, want %s", k, l, err, want)
		}
	}
}

// P90: nodes of several objects, or functions, each once and rising.
func TestWritesMore(t *testing.T) {
	for _, x := range []struct {
		text string
		k    int
		want string
	}{
		{"var a\nvar b\n*a = b\na = new\na = &b\na = &a\nb = new\n", 0, "[0 1 2 3]"},
		{"var a\nvar b\nfn f() a\n*a = a\na = fn f\na = &b\n", 0, "[1]"},
		{"var a\nfn f() a\n*a = a\na = fn f\n", 0, "[]"},
		{"var a\na = *a\n", 0, "[0]"},
		{"var a\na = a\n", 0, "[0]"},
		{"var a\nvar b\nvar c\nvar d\nfn f(c, b) a\nfn g(b, a) a\nfn h(d) a\nd = call a(d, d)\na = fn f\na = fn g\na = fn h\n", 0, "[0 1 2 3]"},
		{"var a\nvar b\nvar c\nvar d\nfn f(c, b) a\nfn g(b, a) a\nfn h(d) a\nc = call a(d)\na = fn f\na = fn g\na = fn h\n", 0, "[2 3]"},
		{"var a\nvar b\nvar c\nvar d\nfn f(c, b) a\nfn g(b, a) a\nfn h(d) a\nc = call a(d, d, d)\na = fn f\na = fn g\na = fn h\n", 0, "[]"},
		{"var a\nvar b\nvar c\nvar d\nfn f(c, b) a\nfn g(b, a) a\nd = call d(a, a)\nd = fn f\n", 0, "[1 2 3]"},
	} {
		if l, err := Writes(read(t, x.text), x.k); fmt.Sprint(l) != x.want || err != nil {
			t.Errorf("%q: %v, %v, want %s", x.text, l, err, x.want)
		}
	}
}

// P91: only loads, stores and calls can be idle; in order.
func TestIdle(t *testing.T) {
	for _, x := range []struct{ text, want string }{
		{"", "[]"},
		{"var a\nvar b\na = b\na = a\n", "[]"},
		{"var a\nvar b\nfn f() a\na = &b\nb = new\nb = fn f\na = b\n", "[]"},
		{"var a\nvar b\na = *b\n*a = b\na = call b()\n", "[0 1 2]"},
		{"var a\nvar b\na = *b\n*b = a\nb = &a\n", "[]"},
		{"var a\nvar b\na = *b\n*b = a\nb = new\n", "[]"},
		{"var a\nvar b\nfn f() a\na = *b\n*b = a\nb = fn f\na = call b()\na = call b(a)\n", "[0 1 4]"},
		{"var a\nvar b\nfn f() a\na = *b\n*b = a\nb = fn f\nb = &b\n", "[]"},
		{"var a\nvar b\nfn f() a\nfn g(a) a\na = call b(a, a)\na = call b()\na = call b(a)\nb = fn f\nb = fn g\nb = &b\n", "[0]"},
		{"var a\nvar b\na = call b()\nb = &b\nb = new\n", "[0]"},
		// What is asked for is x of a store, y of a load and of a call: the other one has nothing to do with it.
		{"var a\nvar b\na = &b\na = *b\n*b = a\n", "[1 2]"},
		{"var a\nvar b\nfn f() b\na = fn f\na = call b()\n", "[1]"},
		{"var a\nvar b\na = &b\nb = *a\n*a = b\n", "[]"},
		{sample, "[7 8 10 11 12]"},
	} {
		l, err := Idle(read(t, x.text))
		if got := fmt.Sprint(l); got != x.want || err != nil {
			t.Errorf("%q: %s, %v, want %s", x.text, got, err, x.want)
		}
	}
}

// P90: numbers that are no node's, or no statement's.
func TestBounds(t *testing.T) {
	p := read(t, sample)
	nodes, stmts := prog.Nodes(p), len(p.Stmts)
	for _, n := range []int{-1, nodes, nodes + 1, math.MaxInt, math.MinInt} {
		for _, m := range []int{0, 5, -1, nodes} {
			for _, x := range [][2]int{{n, m}, {m, n}} {
				if is, err := Alias(p, x[0], x[1]); is || err != api.ErrBound {
					t.Errorf("%v: %v, %v", x, is, err)
				}
			}
		}
	}
	for _, k := range []int{-1, stmts, stmts + 1, math.MaxInt, math.MinInt} {
		if l, err := Writes(p, k); len(l) != 0 || err != api.ErrBound {
			t.Errorf("%d: %v, %v", k, l, err)
		}
	}
	if is, err := Alias(p, nodes-1, nodes-1); is || err != nil {
		t.Error("the last node, which has nothing:", is, err)
	}
	if l, err := Writes(p, stmts-1); len(l) != 1 || err != nil {
		t.Error("the last statement:", l, err)
	}
	if is, err := Alias(api.Program{}, 0, 0); is || err != api.ErrBound {
		t.Error("no node at all:", is, err)
	}
	if l, err := Writes(api.Program{}, 0); len(l) != 0 || err != api.ErrBound {
		t.Error("no statement at all:", l, err)
	}
}

// P90, P91: prog.Check's errors, ahead of a bound, and zero values with them.
func TestWrongPrograms(t *testing.T) {
	for name, p := range map[string]api.Program{
		"full":  {Stmts: make([]api.Stmt, api.MaxStmts+1)},
		"name":  {Vars: []string{"a", "fn"}},
		"exist": {Vars: []string{"a", "a"}},
		"ret":   {Funs: []api.Fun{{Name: "f"}}},
		"kind":  {Vars: []string{"a"}, Stmts: []api.Stmt{{Kind: "new"}, {}}},
		"bound": {Vars: []string{"a"}, Stmts: []api.Stmt{{Kind: "addr"}, {Kind: "copy", Y: -1}}},
		"args":  {Vars: []string{"a"}, Stmts: []api.Stmt{{Kind: "call", Args: make([]int, 4)}}},
		"shape": {Vars: []string{"a"}, Stmts: []api.Stmt{{Kind: "new"}, {Kind: "new"}, {Kind: "new", Y: 1}}},
	} {
		want := prog.Check(p)
		if want == nil {
			t.Fatal(name, "is well")
		}
		g, err := Graph(p)
		if len(g) != 0 || !reflect.DeepEqual(err, want) {
			t.Errorf("%s: Graph %v, %v, want %v", name, g, err, want)
		}
		l, err := Idle(p)
		if len(l) != 0 || !reflect.DeepEqual(err, want) {
			t.Errorf("%s: Idle %v, %v, want %v", name, l, err, want)
		}
		for _, n := range []int{0, -1, 1000} {
			is, err := Alias(p, n, n)
			if is || !reflect.DeepEqual(err, want) {
				t.Errorf("%s: Alias %v, %v, want %v", name, is, err, want)
			}
			l, err := Writes(p, n)
			if len(l) != 0 || !reflect.DeepEqual(err, want) {
				t.Errorf("%s: Writes %v, %v, want %v", name, l, err, want)
			}
		}
	}
}

// hidden is the sample with one thing more behind the length of each of its lists, which is not well.
func hidden(t *testing.T) api.Program {
	t.Helper()
	p := read(t, sample)
	p.Vars = append(p.Vars, "NONE")[:len(p.Vars)]
	p.Funs = append(p.Funs, api.Fun{Name: "NONE", Ret: -7})[:len(p.Funs)]
	p.Stmts = append(p.Stmts, api.Stmt{Kind: "none"})[:len(p.Stmts)]
	for i, f := range p.Funs {
		p.Funs[i].Params = append(f.Params, -5)[:len(f.Params)]
	}
	for k, s := range p.Stmts {
		p.Stmts[k].Args = append(s.Args, -6)[:len(s.Args)]
	}
	return p
}

// opened shows what lies behind the lists of a hidden one, as it is now.
func opened(p api.Program) string {
	funs, stmts := slices.Clone(p.Funs[:len(p.Funs)+1]), slices.Clone(p.Stmts[:len(p.Stmts)+1])
	for i, f := range p.Funs {
		funs[i].Params = f.Params[:len(f.Params)+1]
	}
	for k, s := range p.Stmts {
		stmts[k].Args = s.Args[:len(s.Args)+1]
	}
	return fmt.Sprint(p.Vars[:len(p.Vars)+1], funs, stmts)
}

// P3, P4: a program is only read, also behind its lists, and nothing of it is kept; answers are new memory.
func TestOnlyReads(t *testing.T) {
	p := hidden(t)
	whole := opened(p)
	answer := func(p api.Program) string {
		g, e1 := Graph(p)
		is, e2 := Alias(p, 0, 3)
		idle, e3 := Idle(p)
		all := fmt.Sprint(g, e1, is, e2, idle, e3)
		clear(g)
		clear(idle)
		for k := range p.Stmts {
			l, err := Writes(p, k)
			all += fmt.Sprint(l, err)
			clear(l[:cap(l)])
		}
		return all
	}
	want := answer(read(t, sample))
	for range 2 {
		if got := answer(p); got != want || opened(p) != whole {
			t.Fatalf("%s, want %s, of %s", got, want, opened(p))
		}
	}
	l, err := Writes(p, 4)
	p.Funs[1].Params[0], p.Stmts[4].X = 2, 2
	if fmt.Sprint(l) != "[1 3]" || err != nil {
		t.Error("kept:", l, err)
	}
	p.Funs[1].Params[0], p.Stmts[4].X = 3, 3
	if got := answer(p); got != want {
		t.Errorf("kept: %s, want %s", got, want)
	}
}
