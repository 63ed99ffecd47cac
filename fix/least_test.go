package fix

import (
	"fmt"
	"reflect"
	"slices"
	"strconv"
	"testing"

	"fingerpost/api"
	"fingerpost/cons"
	"fingerpost/prog"
	"fingerpost/run"
	"fingerpost/set"
)

// P51: the sets, and how many Rounds changed something.
func TestLeast(t *testing.T) {
	for _, x := range []struct {
		text, want string
		rounds     int
	}{
		{"", "[]", 0},
		{"var a\nvar b\nfn f(a) b\n", "[[] []]", 0},
		{"var a\na = a\n", "[[]]", 0},
		{"var a\nvar b\na = b\nb = *a\n*a = b\na = call b(a)\n", "[[] []]", 0},
		{"var a\na = &a\n", "[[0]]", 1},
		{"var a\na = new\na = new\n", "[[1 2] [] []]", 1},
		{"var a\nvar b\nfn f() a\nfn g() a\nb = fn g\na = new\n", "[[2] [4] []]", 1},
		{"var a\nvar b\na = &b\nb = a\n", "[[1] [1]]", 2},
		{"var a\nvar b\nb = a\na = &b\n", "[[1] [1]]", 2},
		{"var a\nvar b\na = b\nb = a\na = &a\nb = &b\n", "[[0 1] [0 1]]", 2},
		{"var a\nvar b\nvar c\na = &b\nb = &c\nc = *a\n", "[[1] [2] [2]]", 2},
		{"var a\nvar b\nvar c\na = &b\nc = &c\n*a = c\n", "[[1] [2] [2]]", 2},
		{"var a\nvar b\nvar c\na = &b\n*a = a\nc = *b\n", "[[1] [1] [1]]", 3},
		{"var a\nvar b\na = new\n*a = a\nb = *a\nb = *b\n", "[[2] [2] [2]]", 3},
		{"var f\nvar x\nvar y\nfn id(x) x\nf = fn id\ny = call f(f)\n", "[[3] [3] [3]]", 3},
		{"var f\nvar x\nvar y\nfn id(x) x\nf = fn id\ny = call f()\n", "[[3] [] []]", 1},
		{"var f\nvar x\nvar y\nfn id(x) x\ny = call f(f)\nf = &x\n", "[[1] [] []]", 1},
		{"var f\nvar x\nvar y\nfn g(x) y\nfn h() f\nf = fn h\ny = call f()\nf = call y(y)\n", "[[4] [] [4]]", 2},
		{"var f\nvar x\nvar y\nfn g(x) y\nfn h() f\nf = fn h\nf = fn g\ny = call f()\nx = call y(y)\n", "[[3 4] [3 4] [3 4]]", 3},
	} {
		l, n, err := Least(read(t, x.text))
		if got := fmt.Sprint(l); got != x.want || n != x.rounds || err != nil {
			t.Errorf("%q: %s, %d, %v, want %s, %d", x.text, got, n, err, x.want, x.rounds)
		}
	}
}

// chain hands one object on through every variable, one more each Round.
func chain() api.Program {
	p := api.Program{Vars: names(api.MaxVars)}
	for v := 1; v < api.MaxVars; v++ {
		p.Stmts = append(p.Stmts, api.Stmt{Kind: "copy", X: v, Y: v - 1})
	}
	p.Stmts = append(p.Stmts, api.Stmt{Kind: "new"})
	return p
}

// P51: a Round for each step of the longest chain, whatever order its statements have.
func TestLongChain(t *testing.T) {
	p := chain()
	for range 2 {
		l, n, err := Least(p)
		if n != api.MaxVars || len(l) != api.MaxVars+1 || err != nil {
			t.Fatal(l, n, err)
		}
		for v, s := range l[:api.MaxVars] {
			if !slices.Equal(s, []int{api.MaxVars}) {
				t.Errorf("v%d has %v", v, s)
			}
		}
		if len(l[api.MaxVars]) != 0 {
			t.Error("the place has", l[api.MaxVars])
		}
		slices.Reverse(p.Stmts)
	}
}

// P51: prog.Check's errors, and zero values with them.
func TestLeastWrong(t *testing.T) {
	for name, x := range map[string]struct {
		p    api.Program
		at   int
		want error
	}{
		"full":  {api.Program{Stmts: make([]api.Stmt, api.MaxStmts+1)}, -1, api.ErrFull},
		"name":  {api.Program{Vars: []string{"a", "fn"}}, -1, api.ErrName},
		"exist": {api.Program{Vars: []string{"a", "a"}}, -1, api.ErrExist},
		"ret":   {api.Program{Funs: []api.Fun{{Name: "f"}}}, -1, api.ErrBound},
		"kind":  {api.Program{Stmts: make([]api.Stmt, 1)}, 0, api.ErrKind},
		"bound": {api.Program{Vars: []string{"a"}, Stmts: []api.Stmt{{Kind: "addr"}, {Kind: "copy", Y: -1}}}, 1, api.ErrBound},
		"args":  {api.Program{Vars: []string{"a"}, Stmts: []api.Stmt{{Kind: "call", Args: make([]int, 4)}}}, 0, api.ErrArgs},
		"shape": {api.Program{Vars: []string{"a"}, Stmts: []api.Stmt{{Kind: "new"}, {Kind: "new"}, {Kind: "new", Y: 1}}}, 2, api.ErrShape},
	} {
		l, n, err := Least(x.p)
		if len(l) != 0 || n != 0 || !sameError(err, x.at, x.want) {
			t.Errorf("%s: %v, %d, %v, want %v at %d", name, l, n, err, x.want, x.at)
		}
	}
}

// P3, P4: the program is only read; the lists are new memory, and no two share any.
func TestLeastOnlyReads(t *testing.T) {
	const text, want = "var a\nvar b\nvar c\na = &b\nb = a\nc = b\na = c\na = new\n", "[[1 3] [1 3] [1 3] []]"
	p := read(t, text)
	l, _, err := Least(p)
	if fmt.Sprint(l) != want || err != nil || !reflect.DeepEqual(p, read(t, text)) {
		t.Fatal(l, err, p)
	}
	for n := range l {
		again, _, _ := Least(p)
		spoil(again[n : n+1])
		again[n] = l[n]
		if fmt.Sprint(again) != want {
			t.Errorf("list %d shares memory with another one: %v", n, again)
		}
	}
	p.Stmts[0].Kind = "what"
	if fmt.Sprint(l) != want {
		t.Error("kept:", l)
	}
}

// dice throws the same numbers every time, so that a test that fails fails again.
type dice uint32

func (d *dice) below(n int) int {
	*d ^= *d << 13
	*d ^= *d >> 17
	*d ^= *d << 5
	return int(uint32(*d) % uint32(n))
}

// thrown is a program of so many statements.
func (d *dice) thrown(vars, funs, stmts int) api.Program {
	p := api.Program{Vars: names(vars)}
	for i := range funs {
		f := api.Fun{Name: "f" + strconv.Itoa(i), Ret: d.below(vars)}
		for range d.below(api.MaxParams + 1) {
			f.Params = append(f.Params, d.below(vars))
		}
		slices.Sort(f.Params) // no two of them may be one
		f.Params = slices.Compact(f.Params)
		p.Funs = append(p.Funs, f)
	}
	kinds := []string{"addr", "new", "copy", "load", "store", "call"}
	for range stmts {
		s := api.Stmt{Kind: kinds[d.below(len(kinds))], X: d.below(vars), Y: d.below(vars)}
		switch {
		case s.Kind == "new":
			s.Y = 0
		case s.Kind == "addr" && funs > 0 && d.below(2) == 0:
			s.Kind, s.Y = "fun", d.below(funs)
		case s.Kind == "call":
			for range d.below(api.MaxParams + 1) {
				s.Args = append(s.Args, d.below(vars))
			}
		}
		p.Stmts = append(p.Stmts, s)
	}
	return p
}

// many programs: small ones, thrown ones, and some that reach the bounds.
func many(t *testing.T) []api.Program {
	l, d := append(small(t), chain()), dice(20261118)
	for k := range 150 {
		l = append(l, d.thrown(1+k%12, k%(api.MaxFuns+1), 4+k%40))
	}
	for range 10 {
		l = append(l, d.thrown(api.MaxVars, api.MaxFuns, api.MaxStmts))
	}
	return l
}

// P51: Round by Round from empty sets on, and no Round more changes anything.
func TestLeastIsByRounds(t *testing.T) {
	for _, p := range many(t) {
		l, n, err := Least(p)
		if err != nil {
			t.Fatal(prog.Text(p), err)
		}
		has := make([][]int, prog.Nodes(p))
		for k := range n {
			next := sameRound(t, p, has)
			if fmt.Sprint(next) == fmt.Sprint(has) {
				t.Fatalf("%s: Round %d of %d changes nothing", prog.Text(p), k, n)
			}
			has = next
		}
		if last := sameRound(t, p, has); fmt.Sprint(last) != fmt.Sprint(has) || fmt.Sprint(l) != fmt.Sprint(has) {
			t.Fatalf("%s: %v, by %d Rounds %v, then %v", prog.Text(p), l, n, has, last)
		}
	}
}

func within(a, b [][]int) bool {
	for n := range a {
		if !set.Within(a[n], b[n]) {
			return false
		}
	}
	return true
}

// P52: of all that nodes of small programs could have, it is within each that is closed.
func TestWithinEachClosed(t *testing.T) {
	for _, p := range small(t) {
		least, _, err := Least(p)
		if err != nil {
			t.Fatal(err)
		}
		nodes, objects, found := prog.Nodes(p), prog.Objects(p), 0
		for bits := range 1 << (nodes * objects) {
			has := setsOf(nodes, objects, bits)
			is, err := cons.Closed(p, has)
			if err != nil || is && !within(least, has) {
				t.Fatalf("%s: %v is closed, and %v is not within it, %v", prog.Text(p), has, least, err)
			}
			if is {
				found++
			}
		}
		if found == 0 {
			t.Errorf("%s: nothing is closed", prog.Text(p))
		}
	}
}

// swell adds Rounds to what nodes have until it is closed: a closed answer that is not the least.
func swell(t *testing.T, p api.Program, has [][]int) [][]int {
	t.Helper()
	for {
		next := sameRound(t, p, has)
		if fmt.Sprint(next) == fmt.Sprint(has) {
			return has
		}
		has = next
	}
}

// P52: it is closed, of programs of every size; and within closed ones that began with more.
func TestLeastIsClosed(t *testing.T) {
	d := dice(7)
	for _, p := range many(t) {
		least, _, err := Least(p)
		if err != nil {
			t.Fatal(prog.Text(p), err)
		}
		if is, err := cons.Closed(p, least); !is || err != nil {
			t.Errorf("%s: %v: %v, %v", prog.Text(p), least, is, err)
		}
		if len(least) == 0 {
			continue
		}
		more := make([][]int, len(least))
		more[d.below(len(more))] = []int{d.below(prog.Objects(p))}
		if has := swell(t, p, more); !within(least, has) {
			t.Errorf("%s: %v is closed, and %v is not within it", prog.Text(p), has, least)
		}
	}
}

// bounded does a script, and asks of each variable and each thing whether what it has is one of its node's objects; how many have something.
func bounded(t *testing.T, p api.Program, least [][]int, script []int) int {
	t.Helper()
	s, err := run.Do(p, script)
	if err != nil {
		t.Fatal(prog.Text(p), script, err)
	}
	something := 0
	ask := func(node int, v run.Value) {
		if v.Kind == run.KindNone {
			return
		}
		something++
		if o := run.Object(p, s, v); !set.Has(least[node], o) {
			t.Fatalf("%sby %v: node %d has object %d, none of %v", prog.Text(p), script, node, o, least[node])
		}
	}
	for n, v := range s.Vars {
		ask(n, v)
	}
	for n, v := range s.Things {
		ask(prog.Place(p, s.Places[n]), v)
	}
	return something
}

// P52: every short script of small programs.
func TestShortScripts(t *testing.T) {
	for _, p := range small(t) {
		least, _, err := Least(p)
		if err != nil {
			t.Fatal(err)
		}
		scripts := [][]int{nil}
		for range 4 {
			var longer [][]int
			for _, script := range scripts {
				for k := range p.Stmts {
					longer = append(longer, append(slices.Clone(script), k))
				}
			}
			scripts = longer
			for _, script := range scripts {
				bounded(t, p, least, script)
			}
		}
	}
}

// P52: long scripts of programs of every size.
func TestLongScripts(t *testing.T) {
	d, something := dice(11), 0
	for _, p := range many(t) {
		least, _, err := Least(p)
		if err != nil {
			t.Fatal(err)
		}
		if len(p.Stmts) == 0 {
			continue
		}
		for _, length := range []int{50, 51, 200, api.MaxSteps} {
			script := make([]int, length)
			for i := range script {
				script[i] = d.below(len(p.Stmts))
			}
			something += bounded(t, p, least, script)
		}
	}
	if something < 1000 {
		t.Error("scripts did too little to tell anything:", something)
	}
}
