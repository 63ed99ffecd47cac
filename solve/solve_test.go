package solve

import (
	"fmt"
	"math"
	"reflect"
	"slices"
	"strconv"
	"testing"

	"fingerpost/api"
	"fingerpost/cons"
	"fingerpost/fix"
	"fingerpost/prog"
	"fingerpost/set"
)

func read(t *testing.T, text string) api.Program {
	t.Helper()
	p, err := prog.Read(text)
	if err != nil {
		t.Fatalf("%q: %v", text, err)
	}
	return p
}

func begun(t *testing.T, p api.Program) *Solver {
	t.Helper()
	s, err := New(p)
	if s == nil || err != nil {
		t.Fatalf("%s: %v, %v", prog.Text(p), s, err)
	}
	return s
}

// now is what each node has.
func now(s *Solver, nodes int) [][]int {
	l := make([][]int, nodes)
	for n := range l {
		l[n] = s.Has(n)
	}
	return l
}

func count(l [][]int) int {
	n := 0
	for _, s := range l {
		n += len(s)
	}
	return n
}

func within(a, b [][]int) bool {
	for n := range a {
		if !set.Within(a[n], b[n]) {
			return false
		}
	}
	return len(a) == len(b)
}

func same(a, b [][]int) bool { return slices.EqualFunc(a, b, slices.Equal[[]int]) }

func least(t *testing.T, p api.Program) [][]int {
	t.Helper()
	l, _, err := fix.Least(p)
	if err != nil {
		t.Fatal(prog.Text(p), err)
	}
	return l
}

// byRules asks whether what came since can be put in an order in which each fact follows from those ahead of it.
func byRules(t *testing.T, p api.Program, before, after [][]int) bool {
	t.Helper()
	for {
		next, err := fix.Round(p, before)
		if err != nil {
			t.Fatal(prog.Text(p), before, err)
		}
		for n := range next {
			next[n], _ = set.Both(next[n], after[n])
		}
		if same(next, before) {
			return same(after, before)
		}
		before = next
	}
}

// sameState asks of a solver all that can be asked without going on: whether what nodes have are sets within the least answer, and whether it is done if and only if nothing more follows.
func sameState(t *testing.T, p api.Program, s *Solver, want [][]int) [][]int {
	t.Helper()
	l := now(s, len(want))
	for n := range l {
		if err := set.Check(l[n]); err != nil {
			t.Fatalf("%s: node %d has %v", prog.Text(p), n, l[n])
		}
	}
	closed, err := cons.Closed(p, l)
	if err != nil || closed != s.Done() || !within(l, want) || closed != same(l, want) {
		t.Fatalf("%s: %v, closed %v, done %v, want %v, %v", prog.Text(p), l, closed, s.Done(), want, err)
	}
	return l
}

// stepped goes on by steps of one size up to the end, and asks after each.
func stepped(t *testing.T, p api.Program, s *Solver, size int) {
	t.Helper()
	want := least(t, p)
	l := sameState(t, p, s, want)
	for !s.Done() {
		came := s.Step(size)
		after := sameState(t, p, s, want)
		if left := count(want) - count(l); came != min(size, left) || came != count(after)-count(l) || !within(l, after) {
			t.Fatalf("%s: %d came of %d that were left, in a step of %d: %v, then %v", prog.Text(p), came, left, size, l, after)
		}
		if !byRules(t, p, l, after) {
			t.Fatalf("%s: %v, then %v: something came by no rule", prog.Text(p), l, after)
		}
		l = after
	}
	if s.Step(1) != 0 || s.Step(math.MaxInt) != 0 || s.Run() != 0 || !s.Done() || !same(now(s, len(want)), want) {
		t.Fatalf("%s: it goes on when it is done", prog.Text(p))
	}
}

// dice throws the same numbers every time, so that a test that fails fails again.
type dice uint32

func (d *dice) below(n int) int {
	*d ^= *d << 13
	*d ^= *d >> 17
	*d ^= *d << 5
	return int(uint32(*d) % uint32(n))
}

func (d *dice) list(n, below int) []int {
	l := make([]int, n)
	for i := range l {
		l[i] = d.below(below)
	}
	return l
}

// thrown is a program of so many statements.
func (d *dice) thrown(vars, funs, stmts int) api.Program {
	var p api.Program
	for i := range vars {
		p.Vars = append(p.Vars, "v"+strconv.Itoa(i))
	}
	for i := range funs {
		params := d.list(d.below(api.MaxParams+1), vars)
		slices.Sort(params) // no two of them may be one
		p.Funs = append(p.Funs, api.Fun{Name: "f" + strconv.Itoa(i), Params: slices.Compact(params), Ret: d.below(vars)})
	}
	kinds := []string{"addr", "new", "copy", "load", "store", "call"}
	for range stmts {
		x := api.Stmt{Kind: kinds[d.below(len(kinds))], X: d.below(vars), Y: d.below(vars)}
		switch {
		case x.Kind == "new":
			x.Y = 0
		case x.Kind == "addr" && funs > 0 && d.below(2) == 0:
			x.Kind, x.Y = "fun", d.below(funs)
		case x.Kind == "call":
			x.Args = d.list(d.below(api.MaxParams+1), vars)
		}
		p.Stmts = append(p.Stmts, x)
	}
	return p
}

// many programs of every size up to the bounds.
func many() []api.Program {
	l, d := []api.Program{{}}, dice(20261118)
	for k := range 120 {
		l = append(l, d.thrown(1+k%12, k%(api.MaxFuns+1), 1+k%40))
	}
	for range 6 {
		l = append(l, d.thrown(api.MaxVars, api.MaxFuns, api.MaxStmts))
	}
	return l
}

// P60: what nodes have at the end, and how many came.
func TestRun(t *testing.T) {
	for _, x := range []struct {
		text, want string
		came       int
	}{
		{"", "[]", 0},
		{"var a\nvar b\nfn f(a) b\n", "[[] []]", 0},
		{"var a\nvar b\na = b\nb = *a\n*a = b\na = call b(a)\n", "[[] []]", 0},
		{"var a\na = &a\n", "[[0]]", 1},
		{"var a\na = &a\na = &a\na = a\n", "[[0]]", 1},
		{"var a\na = new\na = new\n", "[[1 2] [] []]", 2},
		{"var a\nvar b\na = &b\nb = a\n", "[[1] [1]]", 2},
		{"var a\nvar b\nb = a\na = &b\n", "[[1] [1]]", 2},
		{"var a\nvar b\na = b\nb = a\na = &a\nb = &b\n", "[[0 1] [0 1]]", 4},
		{"var a\nvar b\nvar c\nc = *a\nb = &c\na = &b\n", "[[1] [2] [2]]", 3},
		{"var a\nvar b\nvar c\na = &b\nb = &c\nc = *a\n", "[[1] [2] [2]]", 3},
		{"var a\nvar b\nvar c\n*a = c\nc = &c\na = &b\n", "[[1] [2] [2]]", 3},
		{"var a\nvar b\nvar c\na = &b\nc = &c\n*a = c\n", "[[1] [2] [2]]", 3},
		{"var a\nvar b\na = new\n*a = a\nb = *a\nb = *b\n", "[[2] [2] [2]]", 3},
		{"var a\nvar b\nfn f() b\na = fn f\nb = *a\n*a = a\n", "[[2] []]", 1},
		{"var f\nvar x\nvar y\nfn id(x) x\nf = fn id\ny = call f(f)\n", "[[3] [3] [3]]", 3},
		{"var f\nvar x\nvar y\nfn id(x) x\ny = call f(f)\nf = fn id\n", "[[3] [3] [3]]", 3},
		{"var f\nvar x\nvar y\nfn id(x) x\nf = fn id\ny = call f()\n", "[[3] [] []]", 1},
		{"var f\nvar x\nvar y\nfn id(x) x\ny = call f(f)\nf = &x\n", "[[1] [] []]", 1},
		{"var f\nvar x\nvar y\nfn g(x) y\nfn h() f\nf = fn h\nf = fn g\ny = call f()\nx = call y(y)\n", "[[3 4] [3 4] [3 4]]", 6},
	} {
		p := read(t, x.text)
		s := begun(t, p)
		if s.Done() != (x.came == 0) || count(now(s, prog.Nodes(p))) != 0 {
			t.Errorf("%q: at the beginning: %v, %v", x.text, s.Done(), now(s, prog.Nodes(p)))
		}
		came, again := s.Run(), s.Run()
		if got := fmt.Sprint(now(s, prog.Nodes(p))); got != x.want || came != x.came || again != 0 || !s.Done() {
			t.Errorf("%q: %s, %d and %d came, want %s, %d", x.text, got, came, again, x.want, x.came)
		}
	}
}

// P60: below 1 none come, and nothing changes.
func TestStepOfNone(t *testing.T) {
	p := read(t, "var a\nvar b\na = &b\nb = a\n")
	s := begun(t, p)
	for done := range 3 {
		for _, n := range []int{0, -1, -5, math.MinInt} {
			if came := s.Step(n); came != 0 || s.Done() != (done == 2) || count(now(s, 2)) != done {
				t.Errorf("a step of %d when %d came: %d, %v", n, done, came, now(s, 2))
			}
		}
		s.Step(1)
	}
}

// P60, P62: in steps of any size; what came came by a rule.
func TestSteps(t *testing.T) {
	for _, p := range many() {
		all := count(least(t, p))
		sizes := []int{2, 3, 7, all - 1, all, all + 1, math.MaxInt}
		if all < 60 {
			sizes = append(sizes, 1)
		}
		for _, size := range sizes {
			if size > 0 && all/size < 60 {
				stepped(t, p, begun(t, p), size)
			}
		}
	}
}

// P60, P62: all at once, also at the bounds, and when some came ahead.
func TestRunIsLeast(t *testing.T) {
	for _, p := range many() {
		want := least(t, p)
		for _, ahead := range []int{0, 1, 5, 50, 500} {
			s := begun(t, p)
			came := s.Step(ahead)
			if !within(now(s, len(want)), want) {
				t.Fatalf("%s: %v is not within %v", prog.Text(p), now(s, len(want)), want)
			}
			if came += s.Run(); came != count(want) || !s.Done() || !same(now(s, len(want)), want) {
				t.Fatalf("%s: %d came: %v, want %v", prog.Text(p), came, now(s, len(want)), want)
			}
		}
	}
}

// P60: no such node has anything: also no function, though it is an object.
func TestHasOfNoNode(t *testing.T) {
	s := begun(t, read(t, "var a\nvar b\nfn f() a\na = new\nb = fn f\n*a = b\n"))
	s.Run()
	if got := fmt.Sprint(now(s, 3)); got != "[[2] [3] [3]]" {
		t.Error(got)
	}
	for _, n := range []int{-1, 3, 4, 99, math.MinInt, math.MaxInt} {
		if l := s.Has(n); len(l) != 0 {
			t.Errorf("node %d has %v", n, l)
		}
	}
}

// P60: prog.Check's errors, and no solver with them.
func TestNewWrong(t *testing.T) {
	for name, p := range map[string]api.Program{
		"full":  {Stmts: make([]api.Stmt, api.MaxStmts+1)},
		"name":  {Vars: []string{"a", "fn"}},
		"exist": {Vars: []string{"a", "a"}},
		"args":  {Vars: []string{"a"}, Funs: []api.Fun{{Name: "f", Params: make([]int, 4)}}},
		"ret":   {Funs: []api.Fun{{Name: "f"}}},
		"kind":  {Stmts: make([]api.Stmt, 1)},
		"bound": {Vars: []string{"a"}, Stmts: []api.Stmt{{Kind: "addr"}, {Kind: "copy", Y: -1}}},
		"shape": {Vars: []string{"a"}, Stmts: []api.Stmt{{Kind: "new"}, {Kind: "new"}, {Kind: "new", Y: 1}}},
	} {
		s, err := New(p)
		if want := prog.Check(p); s != nil || want == nil || !reflect.DeepEqual(err, want) {
			t.Errorf("%s: %v, %v, want %v", name, s, err, want)
		}
	}
}

// P2: two solvers of one program, asked the same, tell the same after each step.
func TestTwiceTheSame(t *testing.T) {
	for _, p := range many() {
		a, b, nodes := begun(t, p), begun(t, p), prog.Nodes(p)
		for k := 0; !a.Done(); k++ {
			if a.Step(k) != b.Step(k) || a.Done() != b.Done() || !same(now(a, nodes), now(b, nodes)) {
				t.Fatalf("%s: %v and %v", prog.Text(p), now(a, nodes), now(b, nodes))
			}
		}
	}
}

// P4: what Has answers is new memory.
func TestHasIsNewMemory(t *testing.T) {
	p := read(t, "var a\nvar b\nvar c\na = &a\na = &c\nb = a\nc = b\na = &b\n")
	s := begun(t, p)
	for !s.Done() {
		s.Step(1)
		for n := range 3 {
			l := s.Has(n)
			for i := range cap(l) {
				l[:cap(l)][i] = -7
			}
		}
	}
	if got := fmt.Sprint(now(s, 3)); got != "[[0 1 2] [0 1 2] [0 1 2]]" {
		t.Error("shared:", got)
	}
	l := s.Has(0)
	if err := s.Add(api.Stmt{Kind: "addr", X: 0, Y: 0}); err != nil || s.Run() != 0 || !slices.Equal(l, []int{0, 1, 2}) {
		t.Error("kept:", l, err)
	}
}

// P3, P4: the program is only read, none of it behind a list's length, and not kept.
func TestProgramIsNotKept(t *testing.T) {
	vars := []string{"f", "x", "y", "?"}
	params := []int{1, -9}
	funs := []api.Fun{{Name: "id", Params: params[:1], Ret: 1}, {Name: "?", Ret: -1}}
	args := []int{0, -9}
	stmts := []api.Stmt{{Kind: "call", X: 2, Y: 0, Args: args[:1]}, {Kind: "addr", X: 0, Y: 2}, {Kind: "?", X: -1}}
	p := api.Program{Vars: vars[:3], Funs: funs[:1], Stmts: stmts[:2]}
	s := begun(t, p)
	if err := s.Add(api.Stmt{Kind: "fun", X: 0}); err != nil {
		t.Fatal(err)
	}
	if vars[3] != "?" || params[1] != -9 || funs[1].Name != "?" || args[1] != -9 || stmts[2].Kind != "?" {
		t.Error("written:", vars, params, funs, args, stmts)
	}
	vars[0], params[0], args[0] = "?", 0, -9
	funs[0], stmts[0], stmts[1] = api.Fun{}, api.Stmt{}, api.Stmt{}
	if came := s.Run(); came != 6 || fmt.Sprint(now(s, 3)) != "[[2 3] [2 3] [2 3]]" {
		t.Error(came, now(s, 3))
	}
	if err := s.Add(api.Stmt{Kind: "call", X: 1, Y: 0, Args: []int{2}}); err != nil || s.Run() != 0 {
		t.Error("kept:", now(s, 3), err)
	}
}
