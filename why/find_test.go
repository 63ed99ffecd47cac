package why

import (
	"fmt"
	"math"
	"reflect"
	"slices"
	"strconv"
	"testing"

	"fingerpost/api"
	"fingerpost/prog"
	"fingerpost/set"
)

// sameProof asks whether steps prove a fact: by the document's words, no fact twice, and with no needless step.
func sameProof(p api.Program, l []Step, want fact) bool {
	told := map[fact]int{}
	for _, s := range l {
		told[tells(s)]++
	}
	_, err := wantCheck(p, l)
	return err == nil && len(told) == len(l) && tells(l[len(l)-1]) == want && len(needed(l)) == len(l)
}

func found(t *testing.T, p api.Program, node, obj int) []Step {
	t.Helper()
	l, err := Find(p, node, obj)
	if err != nil || len(l) == 0 {
		t.Fatalf("%s: node %d has object %d, and no proof: %v, %v", prog.Text(p), node, obj, l, err)
	}
	if err := Check(p, l); err != nil || len(l) > api.MaxSteps || !sameProof(p, l, fact{node, obj}) {
		t.Fatalf("%s: node %d, object %d, %d steps, %v: %v", prog.Text(p), node, obj, len(l), err, l)
	}
	return l
}

func notFound(t *testing.T, p api.Program, node, obj int) {
	t.Helper()
	if l, err := Find(p, node, obj); len(l) != 0 || err != api.ErrNone {
		t.Fatalf("%s: node %d, object %d: %v, %v", prog.Text(p), node, obj, l, err)
	}
}

// P81: facts that can come by one way alone, with no needless step.
func TestFind(t *testing.T) {
	for _, x := range []struct {
		text      string
		node, obj int
		want      string
	}{
		{"var a\nvar b\na = &b\n", 0, 1, "[{0 1 0 -1 -1}]"},
		{"var a\nvar b\na = &b\nb = new\n", 1, 2, "[{1 2 1 -1 -1}]"},
		{"var a\nvar b\nfn f() a\na = new\nb = fn f\n", 1, 3, "[{1 3 1 -1 -1}]"},
		{"var a\nvar b\na = &b\nb = a\n", 1, 1, "[{0 1 0 -1 -1} {1 1 1 0 -1}]"},
		{"var a\nvar b\nb = a\na = new\na = new\n", 1, 3, "[{0 3 2 -1 -1} {1 3 0 0 -1}]"},
		{"var a\na = &a\na = a\na = *a\n*a = a\n", 0, 0, "[{0 0 0 -1 -1}]"},
		{"var a\nvar b\n*a = a\na = &b\n", 1, 1, "[{0 1 1 -1 -1} {1 1 0 0 0}]"},
		{"var a\nvar b\nfn f(b) b\nb = call a(a)\na = fn f\n", 1, 2, "[{0 2 1 -1 -1} {1 2 0 0 0}]"},
		{"var a\nvar b\nfn f() a\nb = call a()\na = fn f\n", 1, 2, "[{0 2 1 -1 -1} {1 2 0 0 0}]"},
	} {
		l := found(t, read(t, x.text), x.node, x.obj)
		if got := fmt.Sprint(l); got != x.want {
			t.Errorf("%q: node %d, object %d: %s, want %s", x.text, x.node, x.obj, got, x.want)
		}
	}
}

// P81: proofs in which steps lead to each other by every kind of statement.
func TestFindLonger(t *testing.T) {
	for _, x := range []struct {
		text      string
		node, obj int
		kinds     []string
	}{
		{"var a\nvar b\nvar c\nc = *a\na = &b\nb = new\n", 2, 3, []string{"load"}},
		{"var a\nvar b\nvar c\n*a = b\na = &c\nb = new\n", 2, 3, []string{"store"}},
		{"var a\nvar b\nvar c\n*a = b\nc = *a\na = new\nb = &b\n", 2, 1, []string{"store", "load"}},
		{"var f\nvar x\nvar y\nfn id(x) x\ny = call f(y)\ny = new\nf = fn id\n", 1, 3, []string{"call"}},
		{"var f\nvar x\nvar y\nvar z\nfn g(x) y\nz = call f(f)\ny = &x\nf = fn g\n", 3, 1, []string{"call"}},
		{"var a\nvar b\nvar c\nvar d\nfn f(d) c\nb = a\n*b = c\nc = *b\nb = call c(c)\na = new\nc = fn f\n", 3, 5, []string{"call"}},
		{"var a\nvar b\nvar c\nvar d\nfn f() d\na = new\nb = fn f\n*a = b\nc = *a\nd = call c()\na = call c()\nd = a\n", 3, 4, []string{"copy"}},
		{"var a\nvar b\nvar c\nvar d\nfn f() d\na = new\nb = fn f\n*a = b\nc = *a\nd = &b\na = call c()\n", 0, 1, []string{"store", "load", "call"}},
	} {
		p := read(t, x.text)
		used := map[string]int{}
		for _, s := range found(t, p, x.node, x.obj) {
			used[p.Stmts[s.Stmt].Kind]++
		}
		for _, kind := range x.kinds {
			if used[kind] == 0 {
				t.Errorf("%q: no step by %s: %v", x.text, kind, used)
			}
		}
	}
}

// ring of copies, through which all variables have all places, and all places by one of them.
func ring() api.Program {
	p := api.Program{Vars: names(api.MaxVars), Stmts: []api.Stmt{{Kind: "store", X: 3, Y: 5}, {Kind: "load", X: 7, Y: 9}}}
	for v := range api.MaxVars {
		p.Stmts = append(p.Stmts, api.Stmt{Kind: "copy", X: (v + 1) % api.MaxVars, Y: v})
	}
	for k := len(p.Stmts); k < api.MaxStmts; k++ {
		p.Stmts = append(p.Stmts, api.Stmt{Kind: "new", X: k % api.MaxVars})
	}
	return p
}

// knot of all nodes, by two statements: each has all objects, of which there are so many as can be had so.
func knot() api.Program {
	p := api.Program{Vars: names(api.MaxVars), Stmts: []api.Stmt{{Kind: "store", X: 0, Y: 1}, {Kind: "load", X: 1, Y: 0}}}
	for v := range api.MaxVars {
		p.Stmts = append(p.Stmts, api.Stmt{Kind: "addr", X: 0, Y: v})
	}
	for i := range api.MaxFuns {
		p.Funs = append(p.Funs, api.Fun{Name: "f" + strconv.Itoa(i)})
		p.Stmts = append(p.Stmts, api.Stmt{Kind: "fun", X: 0, Y: i})
	}
	for len(p.Stmts) < api.MaxStmts {
		p.Stmts = append(p.Stmts, api.Stmt{Kind: "new", X: 0})
	}
	return p
}

// walk along a list of variables, each of which comes through a chain of others ahead of the next: its longest proof has nearly all there is.
func walk() api.Program {
	const half = api.MaxVars / 2
	p := api.Program{Vars: names(api.MaxVars)}
	for v := range half - 1 {
		p.Stmts = append(p.Stmts, api.Stmt{Kind: "addr", X: v, Y: v + 1}, api.Stmt{Kind: "copy", X: half + v + 1, Y: half + v})
	}
	p.Stmts = append(p.Stmts, api.Stmt{Kind: "addr", X: half}, api.Stmt{Kind: "load", X: half, Y: api.MaxVars - 1})
	return p
}

// many programs: small ones, thrown ones, and some that reach the bounds.
func many(t *testing.T) []api.Program {
	l, d := append(small(t), read(t, sample), api.Program{}, walk()), dice(20261118)
	for k := range 120 {
		l = append(l, d.thrown(1+k%12, k%(api.MaxFuns+1), 1+k%40))
	}
	return l
}

// great programs, whose facts are too many to ask for a proof of each.
func great() []api.Program {
	l, d := []api.Program{ring(), knot()}, dice(7)
	for range 12 {
		l = append(l, d.thrown(api.MaxVars, api.MaxFuns, api.MaxStmts))
	}
	return l
}

// P81, P82: what the least answer has is found, and nothing else; also of numbers that are no node's, and no object's.
func TestFindWhatIsSo(t *testing.T) {
	for _, p := range many(t) {
		has := least(t, p)
		for node := -1; node <= len(has); node++ {
			for obj := -1; obj <= prog.Objects(p); obj++ {
				if 0 <= node && node < len(has) && set.Has(has[node], obj) {
					found(t, p, node, obj)
				} else {
					notFound(t, p, node, obj)
				}
			}
		}
	}
}

// P80, P81: where all that is so is more than a proof may have.
func TestFindAmongMany(t *testing.T) {
	d, tooMany := dice(11), 0
	for _, p := range great() {
		has, objects := least(t, p), prog.Objects(p)
		if count(has) > api.MaxSteps {
			tooMany++
		}
		for range 150 {
			node, obj := d.below(len(has)), d.below(objects)
			if set.Has(has[node], obj) {
				found(t, p, node, obj)
			} else {
				notFound(t, p, node, obj)
			}
		}
	}
	if tooMany < 2 {
		t.Error("too little is so for this to tell something:", tooMany)
	}
}

// P80, P81: the end of the walk hangs on nearly all that is so.
func TestFindLong(t *testing.T) {
	const half = api.MaxVars / 2
	p := walk()
	if l := found(t, p, api.MaxVars-1, half-1); len(l) < half*half {
		t.Errorf("only %d steps: %v", len(l), l)
	}
}

// P81: numbers that are none, and such that are not had.
func TestFindNone(t *testing.T) {
	p := read(t, "var a\nvar b\nfn f(a) b\na = new\nb = a\na = *b\n*b = b\na = call b(b)\n")
	for _, n := range []int{-1, -2, 3, 4, 5, api.MaxSet, math.MaxInt, math.MinInt} {
		for _, obj := range []int{0, 2, 3, n} {
			notFound(t, p, n, obj)
		}
	}
	for _, obj := range []int{-1, 0, 1, 3, 4, math.MaxInt, math.MinInt} {
		for node := range 3 {
			notFound(t, p, node, obj)
		}
	}
	notFound(t, api.Program{}, 0, 0)
}

// P81: prog.Check's errors, also where the node is none, and no steps with them.
func TestFindWrong(t *testing.T) {
	for name, p := range map[string]api.Program{
		"full":  {Stmts: make([]api.Stmt, api.MaxStmts+1)},
		"name":  {Vars: []string{"a", "fn"}},
		"exist": {Vars: []string{"a", "a"}},
		"args":  {Vars: []string{"a"}, Funs: []api.Fun{{Name: "f", Params: make([]int, 4)}}},
		"ret":   {Funs: []api.Fun{{Name: "f"}}},
		"kind":  {Stmts: make([]api.Stmt, 1)},
		"bound": {Vars: []string{"a"}, Stmts: []api.Stmt{{Kind: "addr"}, {Kind: "copy", Y: -1}}},
		"shape": {Vars: []string{"a"}, Stmts: []api.Stmt{{Kind: "addr"}, {Kind: "new"}, {Kind: "new", Y: 1}}},
	} {
		for _, node := range []int{0, -1, math.MaxInt} {
			l, err := Find(p, node, 0)
			if want := prog.Check(p); len(l) != 0 || want == nil || !reflect.DeepEqual(err, want) {
				t.Errorf("%s: %v, %v, want %v", name, l, err, want)
			}
		}
	}
}

// P2, P4: the program is only read; what is answered is new memory, and the same each time.
func TestFindOnlyReads(t *testing.T) {
	p := read(t, sample)
	want := fmt.Sprint(found(t, p, 3, 6))
	l := found(t, p, 3, 6)
	for i := range cap(l) {
		l[:cap(l)][i] = Step{}
	}
	for range 20 {
		if got := fmt.Sprint(found(t, p, 3, 6)); got != want {
			t.Fatal(got, want)
		}
	}
	if !reflect.DeepEqual(p, read(t, sample)) {
		t.Error("changed:", p)
	}
	l = found(t, p, 3, 6)
	clear(p.Stmts)
	clear(p.Funs)
	if got := fmt.Sprint(l); got != want {
		t.Error("kept:", got, want)
	}
}

// P82: whatever steps are thrown, those that Check takes tell what is so.
func TestWhatHasAProofIsSo(t *testing.T) {
	d, told := dice(20261118), 0
	for _, p := range many(t) {
		has, objects := least(t, p), prog.Objects(p)
		if len(p.Stmts) == 0 {
			continue
		}
		var l []Step
		for range 800 {
			s := Step{Node: d.below(len(has)), Obj: d.below(objects), Stmt: d.below(len(p.Stmts)), From: d.below(len(l)+1) - 1, By: d.below(len(l)+1) - 1}
			// Thrown blindly, hardly a step would be well.
			if d.below(2) == 0 {
				s.Node = p.Stmts[s.Stmt].X
			}
			if s.From >= 0 && d.below(4) > 0 {
				s.Obj = l[s.From].Obj
			}
			if Check(p, append(slices.Clip(l), s)) != nil {
				continue
			}
			l = append(l, s)
			told++
			if !set.Has(has[s.Node], s.Obj) {
				t.Fatalf("%s: %v is proven, and not so: %v", prog.Text(p), s, l)
			}
		}
	}
	if told < 1000 {
		t.Error("too few steps are well for this to tell something:", told)
	}
}
