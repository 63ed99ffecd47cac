package calls

import (
	"slices"
	"strconv"
	"testing"

	"fingerpost/api"
	"fingerpost/fix"
	"fingerpost/prog"
	"fingerpost/set"
)

func read(t *testing.T, text string) api.Program {
	t.Helper()
	p, err := prog.Read(text)
	if err != nil {
		t.Fatalf("%q: %v", text, err)
	}
	return p
}

func least(t *testing.T, p api.Program) [][]int {
	t.Helper()
	l, _, err := fix.Least(p)
	if err != nil {
		t.Fatal(prog.Text(p), err)
	}
	return l
}

// dice throws the same numbers every time, so that a test that fails fails again.
type dice uint32

func (d *dice) below(n int) int {
	*d ^= *d << 13
	*d ^= *d >> 17
	*d ^= *d << 5
	return int(uint32(*d) % uint32(n))
}

func (d *dice) list(n, below int) []int {
	l := make([]int, n)
	for i := range l {
		l[i] = d.below(below)
	}
	return l
}

// thrown is a program of so many statements.
func (d *dice) thrown(vars, funs, stmts int) api.Program {
	p := api.Program{Vars: names(vars)}
	for i := range funs {
		params := d.list(d.below(api.MaxParams+1), vars)
		slices.Sort(params) // no two of them may be one
		p.Funs = append(p.Funs, api.Fun{Name: "f" + strconv.Itoa(i), Params: slices.Compact(params), Ret: d.below(vars)})
	}
	kinds := []string{"addr", "new", "copy", "load", "store", "call"}
	for range stmts {
		x := api.Stmt{Kind: kinds[d.below(len(kinds))], X: d.below(vars), Y: d.below(vars)}
		switch {
		case x.Kind == "new":
			x.Y = 0
		case x.Kind == "addr" && funs > 0 && d.below(2) == 0:
			x.Kind, x.Y = "fun", d.below(funs)
		case x.Kind == "call":
			x.Args = d.list(d.below(api.MaxParams+1), vars)
		}
		p.Stmts = append(p.Stmts, x)
	}
	return p
}

// names are v0, v1 and so on.
func names(n int) []string {
	l := make([]string, n)
	for i := range l {
		l[i] = "v" + strconv.Itoa(i)
	}
	return l
}

// small programs, in which each kind of statement can do something, and fail to.
func small(t *testing.T) []api.Program {
	return []api.Program{
		read(t, "var a\na = &a\na = a\na = *a\n*a = a\n"),
		read(t, "var a\nvar b\nfn g() b\na = fn g\nb = new\na = call a()\nb = call a(a)\n*a = b\n"),
		read(t, "var a\nvar b\nfn f(b) b\na = fn f\na = call a(a)\n*b = a\nb = &b\n"),
		read(t, "var a\nvar b\nvar c\nfn f(b, c) a\na = fn f\nc = call a(c, a)\nb = *c\nc = new\n"),
		read(t, "var a\nvar b\nfn f() a\na = new\nb = *a\n*a = a\nb = fn f\nb = call a()\n"),
	}
}

// many programs: small ones, thrown ones, and some that reach the bounds.
func many(t *testing.T) []api.Program {
	l, d := append(small(t), read(t, sample)), dice(20261119)
	for k := range 150 {
		l = append(l, d.thrown(1+k%12, k%(api.MaxFuns+1), 4+k%40))
	}
	for range 6 {
		l = append(l, d.thrown(api.MaxVars, api.MaxFuns, api.MaxStmts))
	}
	return l
}

// wantCalls goes over all functions, where the program goes over objects: is function f one that statement k may call?
func wantCalls(p api.Program, has [][]int, k, f int) bool {
	s := p.Stmts[k]
	return s.Kind == "call" && len(p.Funs[f].Params) == len(s.Args) && set.Has(has[s.Y], prog.Nodes(p)+f)
}

// wantWrites goes over all nodes: is node n one that statement k may change?
func wantWrites(p api.Program, has [][]int, k, n int) bool {
	s := p.Stmts[k]
	switch s.Kind {
	case "store":
		return set.Has(has[s.X], n)
	case "call":
		for f := range p.Funs {
			if wantCalls(p, has, k, f) && (n == s.X || set.Has(p.Funs[f].Params, n)) {
				return true
			}
		}
		return false
	}
	return n == s.X
}

// wantIdle by the document's words.
func wantIdle(p api.Program, has [][]int, k int) bool {
	isNode := func(o int) bool { return prog.Fun(p, o) < 0 }
	s := p.Stmts[k]
	switch s.Kind {
	case "load":
		return !slices.ContainsFunc(has[s.Y], isNode)
	case "store":
		return !slices.ContainsFunc(has[s.X], isNode)
	case "call":
		for f := range p.Funs {
			if wantCalls(p, has, k, f) {
				return false
			}
		}
		return true
	}
	return false
}

// P90, P91: of programs of every size, what the document's words say of the least answer.
func TestByLeast(t *testing.T) {
	for _, p := range many(t) {
		has := least(t, p)
		var graph []Call
		var idle []int
		for k := range p.Stmts {
			for f := range p.Funs {
				if wantCalls(p, has, k, f) {
					graph = append(graph, Call{k, f})
				}
			}
			if wantIdle(p, has, k) {
				idle = append(idle, k)
			}
			var writes []int
			for n := range has {
				if wantWrites(p, has, k, n) {
					writes = append(writes, n)
				}
			}
			if l, err := Writes(p, k); !slices.Equal(l, writes) || err != nil {
				t.Fatalf("%s: statement %d: %v, %v, want %v", prog.Text(p), k, l, err, writes)
			}
		}
		if l, err := Graph(p); !slices.Equal(l, graph) || err != nil {
			t.Fatalf("%s: %v, %v, want %v", prog.Text(p), l, err, graph)
		}
		if l, err := Idle(p); !slices.Equal(l, idle) || err != nil {
			t.Fatalf("%s: %v, %v, want %v", prog.Text(p), l, err, idle)
		}
	}
}

// P90: of programs of every size, each two nodes, object by object; not hanging on which comes first.
func TestAliasByLeast(t *testing.T) {
	found := map[bool]int{}
	for at, p := range many(t) {
		if at%10 != 0 {
			continue
		}
		has := least(t, p)
		for x := range has {
			for y := range min(len(has), 12) {
				want := slices.ContainsFunc(has[x], func(o int) bool { return set.Has(has[y], o) })
				found[want]++
				for _, pair := range [][2]int{{x, y}, {y, x}} {
					if is, err := Alias(p, pair[0], pair[1]); is != want || err != nil {
						t.Fatalf("%s: %v: %v, %v, want %v", prog.Text(p), pair, is, err, want)
					}
				}
			}
		}
	}
	if found[true] < 100 || found[false] < 100 {
		t.Error("too few of each kind:", found)
	}
}
