package cons

import (
	"fmt"
	"math"
	"reflect"
	"slices"
	"testing"

	"fingerpost/api"
	"fingerpost/prog"
)

// P41: the edges of each kind of statement alone, of variables a, b, c, a place 3 where something is new, and functions behind.
func TestEdgesOfStatement(t *testing.T) {
	const head = "var a\nvar b\nvar c\nfn f(a) b\nfn g(a, c) b\nfn h() c\nc = new\n"
	for _, x := range []struct {
		stmt string
		has  [][]int
		want string
	}{
		{"a = &b", [][]int{{1}, nil, nil, nil}, "[]"},
		{"a = new", [][]int{{4}, nil, nil, nil, nil}, "[]"},
		{"a = fn g", [][]int{{5}, nil, nil, nil}, "[]"},
		{"b = a", [][]int{nil, nil, nil, nil}, "[{0 1}]"},
		{"b = a", [][]int{{0, 1, 2, 3, 4, 5, 6}, {0, 1}, {2}, {3}}, "[{0 1}]"},
		{"a = b", [][]int{nil, nil, nil, nil}, "[{1 0}]"},
		{"b = *a", [][]int{nil, {0}, {0}, {0}}, "[]"},
		{"b = *a", [][]int{{0, 2, 3}, nil, nil, nil}, "[{0 1} {2 1} {3 1}]"},
		{"b = *a", [][]int{{3, 4, 5, 6}, nil, nil, nil}, "[{3 1}]"},
		{"b = *a", [][]int{{4, 5, 6}, nil, nil, nil}, "[]"},
		{"*b = a", [][]int{{0}, nil, {0}, {0}}, "[]"},
		{"*b = a", [][]int{nil, {1, 2, 3}, nil, nil}, "[{0 1} {0 2} {0 3}]"},
		{"*b = a", [][]int{nil, {2, 4, 5, 6}, nil, nil}, "[{0 2}]"},
		{"*b = a", [][]int{nil, {4, 5, 6}, nil, nil}, "[]"},
		{"a = call b(c)", [][]int{{4}, nil, {4}, {4}}, "[]"},
		{"a = call b(c)", [][]int{nil, {0, 1, 2, 3}, nil, nil}, "[]"},
		{"a = call b(c)", [][]int{nil, {4}, nil, nil}, "[{1 0} {2 0}]"},
		{"a = call b(c)", [][]int{nil, {5, 6}, nil, nil}, "[]"},
		{"a = call b(c)", [][]int{nil, {0, 4, 5, 6}, nil, nil}, "[{1 0} {2 0}]"},
		{"a = call b()", [][]int{nil, {4, 5}, nil, nil}, "[]"},
		{"a = call b()", [][]int{nil, {4, 5, 6}, nil, nil}, "[{2 0}]"},
		{"c = call b(b, b)", [][]int{nil, {5}, nil, nil}, "[{1 0} {1 2}]"},
		{"c = call b(b, a)", [][]int{nil, {4, 5, 6}, nil, nil}, "[{0 2} {1 0} {1 2}]"},
		{"c = call b(b, a, a)", [][]int{nil, {4, 5, 6}, nil, nil}, "[]"},
	} {
		l, err := Edges(read(t, head+x.stmt+"\n"), x.has)
		if got := fmt.Sprint(l); got != x.want || err != nil {
			t.Errorf("%s with %v: %s, %v, want %s", x.stmt, x.has, got, err, x.want)
		}
	}
}

// P41: none from a node to itself, whatever rule would make it.
func TestNoEdgeToItself(t *testing.T) {
	const head = "var a\nvar b\nfn f(a) b\n"
	for _, x := range []struct {
		stmt string
		has  [][]int
		want string
	}{
		{"a = a", [][]int{{0, 1, 2}, nil}, "[]"},
		{"a = *a", [][]int{{0}, nil}, "[]"},
		{"a = *b", [][]int{nil, {0, 1}}, "[{1 0}]"},
		{"*a = a", [][]int{{0, 1}, nil}, "[{0 1}]"},
		{"*b = a", [][]int{nil, {0}}, "[]"},
		{"b = call a(a)", [][]int{{2}, nil}, "[]"},
		{"b = call a(b)", [][]int{{2}, nil}, "[{1 0}]"},
		{"a = call a(a)", [][]int{{2}, nil}, "[{1 0}]"},
	} {
		l, err := Edges(read(t, head+x.stmt+"\n"), x.has)
		if got := fmt.Sprint(l); got != x.want || err != nil {
			t.Errorf("%s with %v: %s, %v, want %s", x.stmt, x.has, got, err, x.want)
		}
	}
}

// P41: by From, then To, each once, in whatever order and however often statements make them.
func TestEdgesInOrder(t *testing.T) {
	p := read(t, "var a\nvar b\nvar c\nfn f(b) a\nc = b\nc = a\nb = c\nb = a\nc = b\n*a = c\nb = *a\na = call b(c)\nc = a\na = call b(c)\n")
	l, err := Edges(p, [][]int{{0, 1, 2}, {2, 3}, {0}})
	if got := fmt.Sprint(l); got != "[{0 1} {0 2} {1 2} {2 0} {2 1}]" || err != nil {
		t.Error(got, err)
	}
	if l, err := Edges(api.Program{}, nil); len(l) != 0 || err != nil {
		t.Errorf("the empty program: %v, %v", l, err)
	}
	if l, err := Edges(api.Program{}, [][]int{}); len(l) != 0 || err != nil {
		t.Errorf("the empty program: %v, %v", l, err)
	}
}

// P41: at every bound: every node has every object.
func TestMostEdges(t *testing.T) {
	p := greatest(api.Stmt{Kind: "call", X: 0, Y: 39, Args: []int{0, 0, 0}})
	for k := range 40 {
		p.Stmts[k] = api.Stmt{Kind: "new", X: k}
	}
	for k := range 19 {
		p.Stmts[40+k] = api.Stmt{Kind: "load", X: k, Y: 39}
		p.Stmts[60+k] = api.Stmt{Kind: "store", X: 39, Y: k}
	}
	objects := make([]int, prog.Objects(p))
	for o := range objects {
		objects[o] = o
	}
	has := slices.Repeat([][]int{objects}, prog.Nodes(p))
	sameEdges(t, p, has)
	if is, err := Closed(p, has); !is || err != nil {
		t.Error(is, err)
	}
	has[0] = objects[:len(objects)-1]
	if is, err := Closed(p, has); is || err != nil {
		t.Error(is, err)
	}
}

// P41, P42: errors of both calls: Check's, then ErrShape, then the first set that is not well.
func TestEdgesWrong(t *testing.T) {
	p := read(t, "var a\nvar b\nfn f() a\na = new\n")
	unnamed := api.Program{Vars: []string{""}}
	noKind := api.Program{Vars: []string{"a"}, Stmts: []api.Stmt{{Kind: "new"}, {Kind: "what"}}}
	for name, x := range map[string]struct {
		p    api.Program
		has  [][]int
		at   int
		want error
	}{
		"name":             {unnamed, [][]int{nil}, -1, api.ErrName},
		"name, shape":      {unnamed, nil, -1, api.ErrName},
		"kind":             {noKind, [][]int{nil, nil}, 1, api.ErrKind},
		"kind, set":        {noKind, [][]int{{-1}, nil}, 1, api.ErrKind},
		"nothing":          {p, nil, -1, api.ErrShape},
		"too few":          {p, [][]int{nil, nil}, -1, api.ErrShape},
		"objects":          {p, make([][]int, 4), -1, api.ErrShape},
		"too many":         {p, make([][]int, 5000), -1, api.ErrShape},
		"shape, set":       {p, [][]int{{-1}, nil}, -1, api.ErrShape},
		"no nodes":         {api.Program{}, [][]int{nil}, -1, api.ErrShape},
		"below":            {p, [][]int{{-1}, nil, nil}, 0, api.ErrBound},
		"no object":        {p, [][]int{nil, {0, 4}, nil}, 1, api.ErrBound},
		"no number":        {p, [][]int{nil, nil, {api.MaxSet}}, 2, api.ErrBound},
		"far below":        {p, [][]int{nil, nil, {math.MinInt}}, 2, api.ErrBound},
		"far above":        {p, [][]int{nil, nil, {math.MaxInt}}, 2, api.ErrBound},
		"twice":            {p, [][]int{nil, {1, 1}, nil}, 1, api.ErrOrder},
		"falling":          {p, [][]int{nil, nil, {0, 2, 1}}, 2, api.ErrOrder},
		"bound, order":     {p, [][]int{nil, {2, 1, api.MaxSet}, nil}, 1, api.ErrBound},
		"order, no object": {p, [][]int{{5, 4}, nil, nil}, 0, api.ErrOrder},
		"the first: order": {p, [][]int{nil, {2, 2}, {-1}}, 1, api.ErrOrder},
		"the first: bound": {p, [][]int{{4}, {2, 2}, {-1}}, 0, api.ErrBound},
		"a place":          {p, [][]int{nil, nil, {0, 1, 2, 3, 4}}, 2, api.ErrBound},
		"great and small":  {p, [][]int{nil, {9, 1}, nil}, 1, api.ErrOrder},
	} {
		l, err := Edges(x.p, x.has)
		if len(l) != 0 || !sameError(err, x.at, x.want) {
			t.Errorf("Edges, %s: %v, %v, want %v at %d", name, l, err, x.want, x.at)
		}
		is, err := Closed(x.p, x.has)
		if is || !sameError(err, x.at, x.want) {
			t.Errorf("Closed, %s: %v, %v, want %v at %d", name, is, err, x.want, x.at)
		}
	}
}

// P42: each kind of statement, with what is missing and without it.
func TestClosed(t *testing.T) {
	const head = "var a\nvar b\nvar c\nfn f(a) b\n"
	for _, x := range []struct {
		stmts string
		has   [][]int
		want  bool
	}{
		{"", [][]int{nil, nil, nil}, true},
		{"", [][]int{{0}, {3}, {1, 2}}, true},
		{"a = &b\n", [][]int{nil, nil, nil}, false},
		{"a = &b\n", [][]int{{0, 2, 3}, {1}, {1}}, false},
		{"a = &b\n", [][]int{{1}, nil, nil}, true},
		{"a = &b\n", [][]int{{0, 1}, nil, {2}}, true},
		{"a = &b\nb = a\n", [][]int{{1}, nil, nil}, false},
		{"a = &b\nb = a\n", [][]int{{1}, {1}, nil}, true},
		{"b = a\n", [][]int{nil, {1}, nil}, true},
		{"b = a\n", [][]int{{0, 3}, {0, 1}, nil}, false},
		{"a = new\n", [][]int{{4}, nil, nil, nil}, false},
		{"a = new\n", [][]int{{3}, nil, nil, nil}, true},
		{"a = fn f\n", [][]int{{3}, nil, nil}, true},
		{"a = fn f\n", [][]int{{2}, {3}, {3}}, false},
		{"b = *a\n", [][]int{{2}, nil, {0}}, false},
		{"b = *a\n", [][]int{{2}, {0}, {0}}, true},
		{"b = *a\n", [][]int{nil, nil, {0}}, true},
		{"*b = a\n", [][]int{{0}, {2}, nil}, false},
		{"*b = a\n", [][]int{{0}, {2}, {0}}, true},
		{"*b = a\n", [][]int{{0}, {3}, nil}, true},
		{"c = call c(c)\n", [][]int{nil, nil, {3}}, false},
		{"c = call c(c)\n", [][]int{{3}, nil, {3}}, true},
		{"c = call c(c)\n", [][]int{{3}, {0}, {3}}, false},
		{"c = call c(c)\n", [][]int{{0, 3}, {0}, {0, 3}}, true},
		{"c = call c()\n", [][]int{nil, {0}, {3}}, true},
		{"a = call c(a)\na = &a\n", [][]int{{0}, {1}, {2}}, true},
		{"b = &a\nc = &a\n", [][]int{nil, {0}, nil}, false},
	} {
		is, err := Closed(read(t, head+x.stmts), x.has)
		if is != x.want || err != nil {
			t.Errorf("%q with %v: %v, %v, want %v", x.stmts, x.has, is, err, x.want)
		}
	}
	if is, err := Closed(api.Program{}, nil); !is || err != nil {
		t.Errorf("the empty program: %v, %v", is, err)
	}
}

// joins asks the document's words of one pair of nodes, so that it goes another way than the program does.
func joins(p api.Program, has [][]int, from, to int) bool {
	return slices.ContainsFunc(p.Stmts, func(s api.Stmt) bool {
		switch s.Kind {
		case "copy":
			return from == s.Y && to == s.X
		case "load":
			return to == s.X && slices.Contains(has[s.Y], from)
		case "store":
			return from == s.Y && slices.Contains(has[s.X], to)
		case "call":
			return slices.ContainsFunc(has[s.Y], func(o int) bool { return enters(p, s, o-len(has), from, to) })
		}
		return false
	})
}

func enters(p api.Program, s api.Stmt, n, from, to int) bool {
	if n < 0 || len(p.Funs[n].Params) != len(s.Args) {
		return false
	}
	param := slices.Index(p.Funs[n].Params, to)
	return from == p.Funs[n].Ret && to == s.X || param >= 0 && s.Args[param] == from
}

// sameEdges holds Edges against the pairs that are joined, and answers them.
func sameEdges(t *testing.T, p api.Program, has [][]int) []Edge {
	t.Helper()
	var want []Edge
	for from := range has {
		for to := range has {
			if from != to && joins(p, has, from, to) {
				want = append(want, Edge{from, to})
			}
		}
	}
	l, err := Edges(p, has)
	if !slices.Equal(l, want) || err != nil {
		t.Fatalf("%v with %v: %v, %v, want %v", prog.Text(p), has, l, err, want)
	}
	return l
}

// sets makes, of a number, what each node has: a bit for each object.
func sets(nodes, objects, bits int) [][]int {
	has := make([][]int, nodes)
	for n := range has {
		for o := range objects {
			if bits>>(n*objects+o)&1 == 1 {
				has[n] = append(has[n], o)
			}
		}
	}
	return has
}

// small programs have three nodes and few objects, so that all that their nodes could have can be gone through.
func small(t *testing.T) []api.Program {
	return []api.Program{
		read(t, "var a\nvar b\nfn f(a) b\nfn g() b\na = new\na = *b\n*b = a\nb = call a(b)\na = call b()\n"),
		read(t, "var a\nvar b\nvar c\nfn f(c) a\na = &b\nc = b\nb = *a\n*c = a\nb = call a(b)\nc = call c(a)\n"),
		read(t, "var a\nfn f() a\na = new\na = new\n*a = a\na = *a\na = call a()\na = fn f\n"),
	}
}

// P41, P42, P43: whatever nodes have, the edges are those that are told; more objects make no fewer; and closed is what lacks nothing.
func TestWhateverTheyHave(t *testing.T) {
	for _, p := range small(t) {
		nodes, objects := prog.Nodes(p), prog.Objects(p)
		all := 1 << (nodes * objects)
		found := make([][]Edge, all)
		for bits := range all {
			has := sets(nodes, objects, bits)
			found[bits] = sameEdges(t, p, has)
			is, err := Closed(p, has)
			if is != lacksNothing(p, has, found[bits]) || err != nil {
				t.Fatalf("%s with %v: %v, %v", prog.Text(p), has, is, err)
			}
			for bit := 1; bit < all; bit <<= 1 {
				if less := found[bits&^bit]; !within(less, found[bits]) {
					t.Fatalf("%s with %v: %v, and with less %v", prog.Text(p), has, found[bits], less)
				}
			}
		}
	}
}

func lacksNothing(p api.Program, has [][]int, l []Edge) bool {
	for k, s := range p.Stmts {
		o := map[string]int{"addr": s.Y, "new": prog.Place(p, k), "fun": prog.Nodes(p) + s.Y}
		if b, ok := o[s.Kind]; ok && !slices.Contains(has[s.X], b) {
			return false
		}
	}
	for _, e := range l {
		for _, o := range has[e.From] {
			if !slices.Contains(has[e.To], o) {
				return false
			}
		}
	}
	return true
}

func within(a, b []Edge) bool {
	return !slices.ContainsFunc(a, func(e Edge) bool { return !slices.Contains(b, e) })
}

// P3, P4: what is handed over stays, also behind its length; what is answered is new memory.
func TestEdgesOnlyRead(t *testing.T) {
	const text = "var a\nvar b\nvar c\nfn f(a) b\nc = a\nb = *a\n*a = b\nc = call a(b)\n"
	p, whole := read(t, text), [][]int{{0, 2, 3, -1, 9}, {1, 0}, {2, 2}, {-1}}
	has := [][]int{whole[0][:3], whole[1][:1], whole[2][:1], whole[3]}[:3]
	l, err := Edges(p, has)
	is, err2 := Closed(p, has)
	want := "[{0 1} {0 2} {1 0} {1 2} {2 1}]"
	if fmt.Sprint(l) != want || is || err != nil || err2 != nil {
		t.Fatal(l, is, err, err2)
	}
	if !reflect.DeepEqual(p, read(t, text)) || fmt.Sprint(whole) != "[[0 2 3 -1 9] [1 0] [2 2] [-1]]" {
		t.Error("changed:", p, whole)
	}
	again, _ := Edges(p, has)
	again[0] = Edge{7, 7}
	p.Stmts[0].Kind, whole[0][0] = "what", 1
	if fmt.Sprint(l) != want {
		t.Error("shared or kept:", l)
	}
}
