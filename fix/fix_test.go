package fix

import (
	"fmt"
	"math"
	"reflect"
	"slices"
	"strconv"
	"testing"

	"fingerpost/api"
	"fingerpost/cons"
	"fingerpost/prog"
)

func read(t *testing.T, text string) api.Program {
	t.Helper()
	p, err := prog.Read(text)
	if err != nil {
		t.Fatalf("%q: %v", text, err)
	}
	return p
}

// sameError: at -1 asks for the bare error, else for a Fault there.
func sameError(err error, at int, want error) bool {
	if at < 0 {
		return err == want
	}
	f, ok := err.(*api.Fault)
	return ok && f.At == at && f.Err == want
}

// P50: each kind of statement alone, of variables a, b, c, a place 3 that c has, and functions behind.
func TestRoundOfStatement(t *testing.T) {
	const head = "var a\nvar b\nvar c\nfn f(a) b\nfn g() c\nc = new\n"
	for _, x := range []struct {
		stmt string
		has  [][]int
		want string
	}{
		{"a = &b", [][]int{nil, nil, nil, nil}, "[[1] [] [3] []]"},
		{"a = &b", [][]int{{1}, nil, {3}, nil}, "[[1] [] [3] []]"},
		{"a = &b", [][]int{{0, 2}, {4}, nil, {5}}, "[[0 1 2] [4] [3] [5]]"},
		{"a = new", [][]int{nil, nil, nil, nil, nil}, "[[4] [] [3] [] []]"},
		{"c = new", [][]int{nil, nil, nil, nil, nil}, "[[] [] [3 4] [] []]"},
		{"a = fn g", [][]int{nil, nil, nil, nil}, "[[5] [] [3] []]"},
		{"a = fn f", [][]int{{5}, nil, nil, nil}, "[[4 5] [] [3] []]"},
		{"b = a", [][]int{nil, {1}, nil, nil}, "[[] [1] [3] []]"},
		{"b = a", [][]int{{0, 3, 5}, {1, 3}, nil, nil}, "[[0 3 5] [0 1 3 5] [3] []]"},
		{"a = a", [][]int{{0, 5}, nil, nil, nil}, "[[0 5] [] [3] []]"},
		{"b = *a", [][]int{{2, 3}, nil, {0, 1}, {4}}, "[[2 3] [0 1 4] [0 1 3] [4]]"},
		{"b = *a", [][]int{{4, 5}, nil, {0}, {1}}, "[[4 5] [] [0 3] [1]]"},
		{"*b = a", [][]int{{0, 4}, {1, 3}, nil, {0, 5}}, "[[0 4] [0 1 3 4] [3] [0 4 5]]"},
		{"*b = a", [][]int{{0}, {4, 5}, nil, nil}, "[[0] [4 5] [3] []]"},
		{"c = call b(c)", [][]int{nil, {4}, {0}, nil}, "[[0] [4] [0 3 4] []]"},
		{"c = call b(c)", [][]int{nil, {3, 5}, {0}, {1}}, "[[] [3 5] [0 3] [1]]"},
		{"a = call b()", [][]int{nil, {4, 5}, {0, 1}, nil}, "[[0 1] [4 5] [0 1 3] []]"},
	} {
		l, err := Round(read(t, head+x.stmt+"\n"), x.has)
		if got := fmt.Sprint(l); got != x.want || err != nil {
			t.Errorf("%s with %v: %s, %v, want %s", x.stmt, x.has, got, err, x.want)
		}
	}
}

// P50: edges are those of has, and what goes over them is what From has in has: not what comes in this Round.
func TestRoundIsOneStep(t *testing.T) {
	for _, x := range []struct {
		text string
		has  [][]int
		want string
	}{
		{"var a\nvar b\na = &b\nb = a\n", [][]int{nil, nil}, "[[1] []]"},
		{"var a\nvar b\na = &b\nb = a\n", [][]int{{0}, nil}, "[[0 1] [0]]"},
		{"var a\nvar b\nvar c\nb = a\nc = b\n", [][]int{{0}, nil, nil}, "[[0] [0] []]"},
		{"var a\nvar b\nvar c\nb = a\na = b\n", [][]int{{0}, {1}, nil}, "[[0 1] [0 1] []]"},
		{"var a\nvar b\nvar c\nb = &c\na = *b\n", [][]int{nil, nil, {0}}, "[[] [2] [0]]"},
		{"var a\nvar b\nvar c\nb = &c\n*b = a\n", [][]int{{0}, nil, nil}, "[[0] [2] []]"},
		{"var a\nvar b\nvar c\nfn f(c) c\na = fn f\nb = call a(a)\n", [][]int{nil, nil, {0}}, "[[3] [] [0]]"},
		{"var a\nvar b\nvar c\nfn f(c) c\na = fn f\nb = call a(a)\n", [][]int{{3}, nil, {0}}, "[[3] [0] [0 3]]"},
	} {
		l, err := Round(read(t, x.text), x.has)
		if got := fmt.Sprint(l); got != x.want || err != nil {
			t.Errorf("%q with %v: %s, %v, want %s", x.text, x.has, got, err, x.want)
		}
	}
	for _, has := range [][][]int{nil, {}} {
		if l, err := Round(api.Program{}, has); len(l) != 0 || err != nil {
			t.Errorf("the empty program: %v, %v", l, err)
		}
	}
}

// comes asks the document's words of one object and one node, so that it goes another way than the program does.
func comes(has [][]int, rules []cons.Rule, edges []cons.Edge, n, o int) bool {
	return slices.Contains(has[n], o) ||
		slices.ContainsFunc(rules, func(r cons.Rule) bool { return r.Kind == "base" && r.A == n && r.B == o }) ||
		slices.ContainsFunc(edges, func(e cons.Edge) bool { return e.To == n && slices.Contains(has[e.From], o) })
}

// sameRound holds Round against what comes to each node, and answers it.
func sameRound(t *testing.T, p api.Program, has [][]int) [][]int {
	t.Helper()
	rules, err1 := cons.Of(p)
	edges, err2 := cons.Edges(p, has)
	l, err := Round(p, has)
	if err1 != nil || err2 != nil || err != nil || len(l) != len(has) {
		t.Fatalf("%s with %v: %v, %v, %v, %v", prog.Text(p), has, l, err1, err2, err)
	}
	for n := range has {
		var want []int
		for o := range prog.Objects(p) {
			if comes(has, rules, edges, n, o) {
				want = append(want, o)
			}
		}
		if !slices.Equal(l[n], want) {
			t.Fatalf("%s with %v: node %d has %v, want %v", prog.Text(p), has, n, l[n], want)
		}
	}
	return l
}

// setsOf makes, of a number, what each node has: a bit for each object.
func setsOf(nodes, objects, bits int) [][]int {
	has := make([][]int, nodes)
	for n := range has {
		for o := range objects {
			if bits>>(n*objects+o)&1 == 1 {
				has[n] = append(has[n], o)
			}
		}
	}
	return has
}

// small programs have few nodes and objects, so that all that their nodes could have can be gone through.
func small(t *testing.T) []api.Program {
	return []api.Program{
		read(t, ""),
		read(t, "var a\nfn f() a\n"),
		read(t, "var a\nvar b\nvar c\na = &b\nb = a\nc = b\n"),
		read(t, "var a\nvar b\nvar c\na = &b\n*a = a\nc = *b\n"),
		read(t, "var a\nvar b\nfn f(a) b\nfn g() b\na = new\na = *b\n*b = a\nb = call a(b)\na = call b()\n"),
		read(t, "var a\nvar b\nfn f(b) b\na = fn f\na = call a(a)\n*a = b\n"),
		read(t, "var a\nvar b\nvar c\nfn f(c) a\na = &b\nc = b\nb = *a\n*c = a\nb = call a(b)\nc = call c(a)\n"),
		read(t, "var a\nvar b\nvar c\nfn f(c) c\nb = fn f\na = call b(b)\n*a = a\n"),
		read(t, "var a\nfn f() a\na = new\na = new\n*a = a\na = *a\na = call a()\na = fn f\n"),
	}
}

// P50: whatever nodes have.
func TestRoundWhateverTheyHave(t *testing.T) {
	for _, p := range small(t) {
		nodes, objects := prog.Nodes(p), prog.Objects(p)
		for bits := range 1 << (nodes * objects) {
			sameRound(t, p, setsOf(nodes, objects, bits))
		}
	}
}

// P50: errors as cons.Edges': Check's, then ErrShape, then the first set that is not well.
func TestRoundWrong(t *testing.T) {
	p := read(t, "var a\nvar b\nfn f() a\na = new\n")
	unnamed := api.Program{Vars: []string{""}}
	noKind := api.Program{Vars: []string{"a"}, Stmts: []api.Stmt{{Kind: "new"}, {Kind: "what"}}}
	for name, x := range map[string]struct {
		p    api.Program
		has  [][]int
		at   int
		want error
	}{
		"full":             {api.Program{Stmts: make([]api.Stmt, api.MaxStmts+1)}, nil, -1, api.ErrFull},
		"name, shape":      {unnamed, nil, -1, api.ErrName},
		"kind":             {noKind, [][]int{nil, nil}, 1, api.ErrKind},
		"kind, set":        {noKind, [][]int{{-1}, nil}, 1, api.ErrKind},
		"nothing":          {p, nil, -1, api.ErrShape},
		"too few":          {p, [][]int{nil, nil}, -1, api.ErrShape},
		"objects":          {p, make([][]int, 4), -1, api.ErrShape},
		"shape, set":       {p, [][]int{{-1}, nil}, -1, api.ErrShape},
		"no nodes":         {api.Program{}, [][]int{nil}, -1, api.ErrShape},
		"below":            {p, [][]int{{-1}, nil, nil}, 0, api.ErrBound},
		"no object":        {p, [][]int{nil, {0, 4}, nil}, 1, api.ErrBound},
		"no number":        {p, [][]int{nil, nil, {api.MaxSet}}, 2, api.ErrBound},
		"far below":        {p, [][]int{nil, nil, {math.MinInt}}, 2, api.ErrBound},
		"far above":        {p, [][]int{nil, nil, {math.MaxInt}}, 2, api.ErrBound},
		"twice":            {p, [][]int{nil, {1, 1}, nil}, 1, api.ErrOrder},
		"falling":          {p, [][]int{nil, nil, {0, 2, 1}}, 2, api.ErrOrder},
		"the first: order": {p, [][]int{nil, {2, 2}, {-1}}, 1, api.ErrOrder},
		"the first: bound": {p, [][]int{{4}, {2, 2}, {-1}}, 0, api.ErrBound},
	} {
		l, err := Round(x.p, x.has)
		if len(l) != 0 || !sameError(err, x.at, x.want) {
			t.Errorf("%s: %v, %v, want %v at %d", name, l, err, x.want, x.at)
		}
		_, asEdges := cons.Edges(x.p, x.has)
		if !reflect.DeepEqual(err, asEdges) {
			t.Errorf("%s: %v, and of Edges %v", name, err, asEdges)
		}
	}
}

// spoil writes over all of a list of lists, also behind the length of each.
func spoil(l [][]int) {
	for _, inner := range l {
		for i := range cap(inner) {
			inner[:cap(inner)][i] = -7
		}
	}
}

// P3, P4: what is handed over stays, also behind its length; what is answered is new memory, and no two lists share any.
func TestRoundOnlyReads(t *testing.T) {
	const text, want = "var a\nvar b\nvar c\na = &a\nc = a\n", "[[0 2] [1] [0 2]]"
	p, whole := read(t, text), [][]int{{0, 2, -1, 9}, {1, 0}, {-3, 5}, {-1}}
	has := [][]int{whole[0][:2], whole[1][:1], whole[2][:0], whole[3]}[:3]
	l, err := Round(p, has)
	if fmt.Sprint(l) != want || err != nil {
		t.Fatal(l, err)
	}
	for n := range l {
		again, _ := Round(p, has)
		spoil(again[n : n+1])
		again[n] = l[n]
		if fmt.Sprint(again) != want {
			t.Errorf("list %d shares memory with another one: %v", n, again)
		}
	}
	if !reflect.DeepEqual(p, read(t, text)) || fmt.Sprint(whole) != "[[0 2 -1 9] [1 0] [-3 5] [-1]]" {
		t.Error("changed:", p, whole)
	}
	spoil(whole)
	p.Stmts[0].Kind = "what"
	if fmt.Sprint(l) != want {
		t.Error("kept:", l)
	}
}

// P50: a node that no rule touches has what it had, in memory of its own.
func TestUntouchedIsCopied(t *testing.T) {
	p, whole := read(t, "var a\nvar b\n"), []int{0, 1, 5}
	l, err := Round(p, [][]int{whole[:2], nil})
	if fmt.Sprint(l) != "[[0 1] []]" || err != nil {
		t.Fatal(l, err)
	}
	spoil(l)
	if !slices.Equal(whole, []int{0, 1, 5}) {
		t.Error("shared:", whole)
	}
}

// names are v0, v1 and so on.
func names(n int) []string {
	l := make([]string, n)
	for i := range l {
		l[i] = "v" + strconv.Itoa(i)
	}
	return l
}
