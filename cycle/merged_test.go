package cycle

import (
	"fmt"
	"reflect"
	"slices"
	"strconv"
	"testing"

	"fingerpost/api"
	"fingerpost/cons"
	"fingerpost/fix"
	"fingerpost/prog"
)

func read(t *testing.T, text string) api.Program {
	t.Helper()
	p, err := prog.Read(text)
	if err != nil {
		t.Fatalf("%q: %v", text, err)
	}
	return p
}

// thrown is a program of so many statements.
func (d *dice) thrown(vars, funs, stmts int) api.Program {
	var p api.Program
	for i := range vars {
		p.Vars = append(p.Vars, "v"+strconv.Itoa(i))
	}
	for i := range funs {
		params := d.list(d.below(api.MaxParams+1), vars)
		slices.Sort(params) // no two of them may be one
		p.Funs = append(p.Funs, api.Fun{Name: "f" + strconv.Itoa(i), Params: slices.Compact(params), Ret: d.below(vars)})
	}
	kinds := []string{"addr", "new", "copy", "load", "store", "call"}
	for range stmts {
		x := api.Stmt{Kind: kinds[d.below(len(kinds))], X: d.below(vars), Y: d.below(vars)}
		switch {
		case x.Kind == "new":
			x.Y = 0
		case x.Kind == "addr" && funs > 0 && d.below(2) == 0:
			x.Kind, x.Y = "fun", d.below(funs)
		case x.Kind == "call":
			x.Args = d.list(d.below(api.MaxParams+1), vars)
		}
		p.Stmts = append(p.Stmts, x)
	}
	return p
}

// many programs of every size up to the bounds.
func many() []api.Program {
	l, d := []api.Program{{}}, dice(20261118)
	for k := range 300 {
		l = append(l, d.thrown(1+k%12, k%(api.MaxFuns+1), 1+k%40))
	}
	for range 6 {
		l = append(l, d.thrown(api.MaxVars, api.MaxFuns, api.MaxStmts))
	}
	return l
}

// P71: by copies, by what is loaded and stored, by calls; edges that only the least answer makes, and such that it does not make.
func TestMerged(t *testing.T) {
	for _, x := range []struct {
		text, want string
		many       int
	}{
		{"", "[]", 0},
		{"var a\n", "[0]", 1},
		{"var a\nvar b\nfn f(a) b\n", "[0 1]", 2},
		{"var a\na = a\na = *a\n*a = a\na = &a\n", "[0]", 1},
		{"var a\nvar b\na = b\nb = a\n", "[0 0]", 1},
		{"var a\nvar b\na = b\na = &b\n", "[0 1]", 2},
		{"var a\nvar b\nvar c\nc = b\nb = a\na = c\n", "[0 0 0]", 1},
		{"var a\nvar b\nvar c\nb = c\nc = b\na = b\n", "[0 1 1]", 2},
		{"var a\nvar b\nvar c\nvar d\na = d\nc = b\nb = c\nd = a\n", "[0 1 1 0]", 2},
		{"var a\nvar b\n*a = b\nb = *a\n", "[0 1]", 2},
		{"var a\nvar b\na = new\n*a = b\nb = *a\n", "[0 1 1]", 2},
		{"var a\nvar b\na = new\na = new\n*a = b\nb = *a\n", "[0 1 1 1]", 2},
		{"var a\nvar b\na = new\na = new\n*a = b\n", "[0 1 2 3]", 4},
		{"var a\nvar b\nvar c\na = &c\nc = b\nb = *a\n", "[0 1 1]", 2},
		{"var a\nvar b\nvar c\na = &b\nc = a\n*c = a\na = *c\n", "[0 0 2]", 2},
		{"var f\nvar x\nvar y\nfn id(x) x\nf = fn id\ny = call f(y)\n", "[0 1 1]", 2},
		{"var f\nvar x\nvar y\nfn id(x) x\nf = fn id\nf = call f(f)\n", "[0 0 2]", 2},
		{"var f\nvar x\nvar y\nfn id(x) x\nf = fn id\ny = call f(y, y)\n", "[0 1 2]", 3},
		{"var f\nvar x\nvar y\nfn id(x) x\ny = call f(y)\n", "[0 1 2]", 3},
	} {
		group, n, err := Merged(read(t, x.text))
		if got := fmt.Sprint(group); got != x.want || n != x.many || err != nil {
			t.Errorf("%q: %s, %d, %v, want %s, %d", x.text, got, n, err, x.want, x.many)
		}
	}
}

// P71, P72: the groups of the edges of the least answer, as many as stand in their order; and nodes of one group have one set.
func TestOneGroupHasOneSet(t *testing.T) {
	merged := 0
	for _, p := range many() {
		has, _, err1 := fix.Least(p)
		l, err2 := cons.Edges(p, has)
		group, n, err := Merged(p)
		if err1 != nil || err2 != nil || err != nil {
			t.Fatal(prog.Text(p), err1, err2, err)
		}
		want, order := both(t, prog.Nodes(p), l)
		if !slices.Equal(group, want) || n != len(order) {
			t.Fatalf("%s: %v, %d, want %v, %v", prog.Text(p), group, n, want, order)
		}
		for node, g := range group {
			if !slices.Equal(has[node], has[g]) {
				t.Fatalf("%s: nodes %d and %d are one, and have %v and %v", prog.Text(p), node, g, has[node], has[g])
			}
		}
		merged += len(group) - n
	}
	if merged < 100 {
		t.Error("too few nodes are one for this to tell something:", merged)
	}
}

// P71: all variables in one ring.
func TestMergedRing(t *testing.T) {
	d := dice(7)
	p := d.thrown(api.MaxVars, api.MaxFuns, 0)
	for v := range api.MaxVars {
		p.Stmts = append(p.Stmts, api.Stmt{Kind: "copy", X: v, Y: (v + 1) % api.MaxVars}, api.Stmt{Kind: "new", X: v})
	}
	group, n, err := Merged(p)
	want := append(make([]int, api.MaxVars), counted(2 * api.MaxVars)[api.MaxVars:]...)
	if !slices.Equal(group, want) || n != 1+api.MaxVars || err != nil {
		t.Error(group, n, err)
	}
}

// P71: prog.Check's errors, and zero values with them.
func TestMergedWrong(t *testing.T) {
	for name, p := range map[string]api.Program{
		"full":  {Stmts: make([]api.Stmt, api.MaxStmts+1)},
		"name":  {Vars: []string{"a", "fn"}},
		"exist": {Vars: []string{"a", "a"}},
		"args":  {Vars: []string{"a"}, Funs: []api.Fun{{Name: "f", Params: make([]int, 4)}}},
		"ret":   {Funs: []api.Fun{{Name: "f"}}},
		"kind":  {Stmts: make([]api.Stmt, 1)},
		"bound": {Vars: []string{"a"}, Stmts: []api.Stmt{{Kind: "addr"}, {Kind: "copy", Y: -1}}},
		"shape": {Vars: []string{"a"}, Stmts: []api.Stmt{{Kind: "new"}, {Kind: "new"}, {Kind: "new", Y: 1}}},
	} {
		group, n, err := Merged(p)
		if want := prog.Check(p); len(group) != 0 || n != 0 || want == nil || !reflect.DeepEqual(err, want) {
			t.Errorf("%s: %v, %d, %v, want %v", name, group, n, err, want)
		}
	}
}

// P4: the program is only read, and not kept.
func TestMergedOnlyReads(t *testing.T) {
	const text = "var f\nvar x\nvar y\nfn id(x) x\nf = fn id\ny = call f(y)\n"
	p := read(t, text)
	group, n, err := Merged(p)
	if fmt.Sprint(group, n, err) != "[0 1 1] 2 <nil>" || !reflect.DeepEqual(p, read(t, text)) {
		t.Fatal(group, n, err, p)
	}
	p.Stmts[1].Args[0], p.Funs[0].Params[0] = 0, 2
	group[0] = -7
	if again, _, _ := Merged(read(t, text)); fmt.Sprint(again) != "[0 1 1]" || fmt.Sprint(group) != "[-7 1 1]" {
		t.Error("kept:", again, group)
	}
}
