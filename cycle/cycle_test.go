package cycle

import (
	"fmt"
	"math"
	"slices"
	"testing"

	"fingerpost/api"
	"fingerpost/cons"
)

// edges of numbers, two by two.
func edges(l ...int) []cons.Edge {
	var out []cons.Edge
	for i := 0; i < len(l); i += 2 {
		out = append(out, cons.Edge{From: l[i], To: l[i+1]})
	}
	return out
}

// sameError: at -1 asks for the bare error, else for a Fault there.
func sameError(err error, at int, want error) bool {
	if at < 0 {
		return err == want
	}
	f, ok := err.(*api.Fault)
	return ok && f.At == at && f.Err == want
}

func both(t *testing.T, n int, l []cons.Edge) (group, order []int) {
	t.Helper()
	group, err1 := Groups(n, l)
	order, err2 := Order(n, l)
	if err1 != nil || err2 != nil {
		t.Fatalf("%d nodes: %v, %v", n, err1, err2)
	}
	return group, order
}

// P70: of few nodes.
func TestGroupsAndOrder(t *testing.T) {
	for _, x := range []struct {
		n            int
		l            []cons.Edge
		group, order string
	}{
		{0, nil, "[]", "[]"},
		{0, edges(), "[]", "[]"},
		{1, nil, "[0]", "[0]"},
		{1, edges(0, 0, 0, 0), "[0]", "[0]"},
		{3, nil, "[0 1 2]", "[0 1 2]"},
		{3, edges(0, 1, 1, 2), "[0 1 2]", "[0 1 2]"},
		{3, edges(2, 1, 1, 0), "[0 1 2]", "[2 1 0]"},
		{3, edges(1, 0), "[0 1 2]", "[1 0 2]"},
		{3, edges(2, 0), "[0 1 2]", "[1 2 0]"},
		{3, edges(2, 0, 2, 1), "[0 1 2]", "[2 0 1]"},
		{3, edges(2, 0, 2, 0, 2, 0), "[0 1 2]", "[1 2 0]"},
		{3, edges(1, 2, 2, 1), "[0 1 1]", "[0 1]"},
		{3, edges(1, 2, 2, 1, 2, 0), "[0 1 1]", "[1 0]"},
		{3, edges(0, 2, 2, 1, 1, 0), "[0 0 0]", "[0]"},
		{4, edges(3, 1, 1, 3, 2, 0, 0, 2), "[0 1 0 1]", "[0 1]"},
		{4, edges(3, 1, 1, 3, 2, 0, 0, 2, 3, 2), "[0 1 0 1]", "[1 0]"},
		{4, edges(0, 1, 1, 0, 2, 3, 3, 2, 0, 2, 1, 3), "[0 0 2 2]", "[0 2]"},
		{5, edges(4, 2, 3, 0, 2, 1), "[0 1 2 3 4]", "[3 0 4 2 1]"},
		{5, edges(0, 4, 4, 3, 1, 2, 3, 0, 2, 0), "[0 1 2 0 0]", "[1 2 0]"},
		{6, edges(0, 1, 1, 2, 2, 0, 2, 3, 3, 4, 4, 5, 5, 3), "[0 0 0 3 3 3]", "[0 3]"},
		{6, edges(1, 2, 2, 1, 3, 4, 4, 3, 2, 3, 4, 1, 5, 0), "[0 1 1 1 1 5]", "[1 5 0]"},
	} {
		group, order := both(t, x.n, x.l)
		if fmt.Sprint(group) != x.group || fmt.Sprint(order) != x.order {
			t.Errorf("%d nodes, %v: %v, %v, want %s, %s", x.n, x.l, group, order, x.group, x.order)
		}
	}
}

// comes tells of each two nodes whether the second can be come to from the first, by one node on the way more at a time: another way than the program goes.
func comes(n int, l []cons.Edge) [][]bool {
	m := make([][]bool, n)
	for i := range m {
		m[i] = make([]bool, n)
		m[i][i] = true
	}
	for _, e := range l {
		m[e.From][e.To] = true
	}
	for by := range n {
		for i := range n {
			for j := range n {
				m[i][j] = m[i][j] || m[i][by] && m[by][j]
			}
		}
	}
	return m
}

// wantGroups asks the document's words of each node.
func wantGroups(n int, l []cons.Edge) []int {
	m, group := comes(n, l), make([]int, n)
	for i := range n {
		for group[i] = 0; !m[i][group[i]] || !m[group[i]][i]; {
			group[i]++
		}
	}
	return group
}

// sameOrder asks of each one of an order whether it was the least that could be next.
func sameOrder(group, order []int, l []cons.Edge) bool {
	there := map[int]int{}
	could := func(g int) bool {
		return group[g] == g && there[g] == 0 && !slices.ContainsFunc(l, func(e cons.Edge) bool {
			from := group[e.From]
			return group[e.To] == g && from != g && there[from] == 0
		})
	}
	for _, next := range order {
		least := 0
		for least < len(group) && !could(least) {
			least++
		}
		if next != least {
			return false
		}
		there[next] = 1
	}
	for _, g := range group {
		if there[g] == 0 {
			return false
		}
	}
	return true
}

func sameBoth(t *testing.T, n int, l []cons.Edge) {
	t.Helper()
	group, order := both(t, n, l)
	if want := wantGroups(n, l); !slices.Equal(group, want) {
		t.Fatalf("%d nodes, %v: %v, want %v", n, l, group, want)
	}
	if !sameOrder(group, order, l) {
		t.Fatalf("%d nodes, %v: groups %v in order %v", n, l, group, order)
	}
}

// P70: all edges that three nodes can have, also to themselves, and all that four can have to each other.
func TestEverySmallGraph(t *testing.T) {
	for bits := range 1 << 9 {
		sameBoth(t, 3, edgesOf(3, bits, func(from, to int) bool { return true }))
	}
	for bits := range 1 << 12 {
		sameBoth(t, 4, edgesOf(4, bits, func(from, to int) bool { return from != to }))
	}
}

// edgesOf makes, of a number, edges: a bit for each one that may be.
func edgesOf(n, bits int, may func(from, to int) bool) []cons.Edge {
	var l []cons.Edge
	for from := range n {
		for to := range n {
			if !may(from, to) {
				continue
			}
			if bits&1 == 1 {
				l = append(l, cons.Edge{From: from, To: to})
			}
			bits >>= 1
		}
	}
	return l
}

// dice throws the same numbers every time, so that a test that fails fails again.
type dice uint32

func (d *dice) below(n int) int {
	*d ^= *d << 13
	*d ^= *d >> 17
	*d ^= *d << 5
	return int(uint32(*d) % uint32(n))
}

func (d *dice) list(n, below int) []int {
	l := make([]int, n)
	for i := range l {
		l[i] = d.below(below)
	}
	return l
}

// shuffled has the same edges in another order, and some of them again.
func (d *dice) shuffled(l []cons.Edge) []cons.Edge {
	c := slices.Concat(l, l[:len(l)/3])
	for i := range c {
		j := d.below(i + 1)
		c[i], c[j] = c[j], c[i]
	}
	return c
}

// P70: thrown edges, few and many; and neither their order nor how often they stand is seen.
func TestThrownEdges(t *testing.T) {
	d := dice(20261118)
	for k := range 300 {
		n := 1 + k%30
		l := edges(d.list(2*d.below(2*n+1), n)...)
		sameBoth(t, n, l)
		group, order := both(t, n, l)
		for range 3 {
			g, o := both(t, n, d.shuffled(l))
			if !slices.Equal(g, group) || !slices.Equal(o, order) {
				t.Fatalf("%d nodes, %v in another order: %v, %v, want %v, %v", n, l, g, o, group, order)
			}
		}
	}
	for range 4 {
		sameBoth(t, 150, edges(d.list(2*160, 150)...))
	}
}

// counted is a list that rises by one.
func counted(n int) []int {
	l := make([]int, n)
	for i := range l {
		l[i] = i
	}
	return l
}

// P1, P70: as many nodes as there may be: alone, in a chain forth and back, in a ring, all joined.
func TestMostNodes(t *testing.T) {
	const n = api.MaxSet
	all, zeros := counted(n), make([]int, n)
	falling := slices.Clone(all)
	slices.Reverse(falling)
	var forth, back, ring, down, every []cons.Edge
	for i := range n {
		ring = append(ring, cons.Edge{From: i, To: (i + 1) % n})
		if i > 0 {
			forth = append(forth, cons.Edge{From: i - 1, To: i})
			back = append(back, cons.Edge{From: i, To: i - 1})
		}
		for j := range n {
			every = append(every, cons.Edge{From: i, To: j})
			if j < i {
				down = append(down, cons.Edge{From: i, To: j})
			}
		}
	}
	for name, x := range map[string]struct {
		l            []cons.Edge
		group, order []int
	}{
		"alone": {nil, all, all},
		"forth": {forth, all, all},
		"back":  {back, all, falling},
		"down":  {down, all, falling},
		"ring":  {ring, zeros, []int{0}},
		"every": {every, zeros, []int{0}},
		"pairs": {slices.Concat(forth, back), zeros, []int{0}},
		"loose": {edges(n-1, 0), all, slices.Concat(all[1:], []int{0})},
	} {
		group, order := both(t, n, x.l)
		if !slices.Equal(group, x.group) || !slices.Equal(order, x.order) {
			t.Errorf("%s: %v, %v", name, group, order)
		}
	}
}

// P70: errors of both calls: n first, then the first edge.
func TestGroupsWrong(t *testing.T) {
	for _, x := range []struct {
		n  int
		l  []cons.Edge
		at int
	}{
		{-1, nil, -1},
		{-1, edges(0, 0), -1},
		{math.MinInt, nil, -1},
		{api.MaxSet + 1, nil, -1},
		{api.MaxSet + 1, edges(-1, 0), -1},
		{math.MaxInt, edges(0, 1), -1},
		{0, edges(0, 0), 0},
		{1, edges(0, 1), 0},
		{1, edges(1, 0), 0},
		{2, edges(0, 1, 1, 0, 0, -1), 2},
		{2, edges(0, 1, -1, 0, 2, 0), 1},
		{2, edges(0, 1, 0, 2, -1, 0), 1},
		{2, edges(0, 1, math.MaxInt, math.MinInt), 1},
		{api.MaxSet, edges(0, api.MaxSet-1, 0, api.MaxSet), 1},
	} {
		group, err1 := Groups(x.n, x.l)
		order, err2 := Order(x.n, x.l)
		if len(group) != 0 || len(order) != 0 || !sameError(err1, x.at, api.ErrBound) || !sameError(err2, x.at, api.ErrBound) {
			t.Errorf("%d nodes, %v: %v, %v, %v, %v, want %v at %d", x.n, x.l, group, order, err1, err2, api.ErrBound, x.at)
		}
	}
}

// P3, P4: edges are only read, none behind their length, and not kept; what is answered is new memory.
func TestEdgesAreOnlyRead(t *testing.T) {
	whole := edges(2, 1, 1, 2, 3, 0, 0, 3, -1, 9)
	l := whole[:3]
	group, order := both(t, 4, l)
	if fmt.Sprint(group, order) != "[0 1 1 3] [1 3 0]" || !slices.Equal(whole, edges(2, 1, 1, 2, 3, 0, 0, 3, -1, 9)) {
		t.Fatal(group, order, whole)
	}
	again, other := both(t, 4, l)
	for _, s := range [][]int{again, other} {
		for i := range cap(s) {
			s[:cap(s)][i] = -7
		}
	}
	clear(whole)
	if fmt.Sprint(group, order) != "[0 1 1 3] [1 3 0]" {
		t.Error("shared:", group, order)
	}
}
