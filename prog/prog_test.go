package prog

import (
	"math"
	"reflect"
	"slices"
	"strconv"
	"strings"
	"testing"

	"fingerpost/api"
)

// sample has every kind of statement, two places, and functions with and without parameters.
func sample() api.Program {
	return api.Program{
		Vars: []string{"a", "b", "c1"},
		Funs: []api.Fun{{Name: "f", Params: []int{0, 1}, Ret: 2}, {Name: "g", Ret: 0}},
		Stmts: []api.Stmt{
			{Kind: "addr", X: 0, Y: 1},
			{Kind: "copy", X: 1, Y: 0},
			{Kind: "new", X: 2},
			{Kind: "load", X: 0, Y: 2},
			{Kind: "store", X: 2, Y: 0},
			{Kind: "new", X: 0},
			{Kind: "fun", X: 1, Y: 1},
			{Kind: "call", X: 0, Y: 1, Args: []int{2, 2}},
			{Kind: "call", X: 2, Y: 2},
		},
	}
}

// changed is the sample with one thing done to it.
func changed(do func(p *api.Program)) api.Program {
	p := sample()
	do(&p)
	return p
}

// numbered names, each of the greatest length.
func numbered(n int) []string {
	l := make([]string, n)
	for i := range l {
		l[i] = "name" + strconv.Itoa(1000+i)
	}
	return l
}

// greatest reaches every bound of a program: its text is longer than one that may be read.
func greatest() api.Program {
	p := api.Program{Vars: numbered(api.MaxVars)}
	for _, name := range numbered(api.MaxFuns) {
		p.Funs = append(p.Funs, api.Fun{Name: name, Params: []int{0, 1, api.MaxVars - 1}, Ret: api.MaxVars - 1})
	}
	for range api.MaxStmts {
		p.Stmts = append(p.Stmts, api.Stmt{Kind: "call", X: 39, Y: 39, Args: []int{39, 39, 39}})
	}
	return p
}

// sameError: at -1 asks for the bare error, else for a Fault there.
func sameError(err error, at int, want error) bool {
	if at < 0 {
		return err == want
	}
	f, ok := err.(*api.Fault)
	return ok && f.At == at && f.Err == want
}

// P20: programs that are well, at every bound.
func TestCheckWell(t *testing.T) {
	for name, p := range map[string]api.Program{
		"empty":          {},
		"empty lists":    {Vars: []string{}, Funs: []api.Fun{}, Stmts: []api.Stmt{}},
		"sample":         sample(),
		"greatest":       greatest(),
		"one name twice": {Vars: []string{"f"}, Funs: []api.Fun{{Name: "f"}}},
		"ret is a param": {Vars: []string{"a"}, Funs: []api.Fun{{Name: "f", Params: []int{0}}}},
		"names": {Vars: []string{"a", "z", "a0", "z9", "zzzzzzzz", "vars", "va", "fn1", "news", "calls", "n"},
			Funs: []api.Fun{{Name: "abcdefg9"}, {Name: "fnn"}}},
		"empty args": {Vars: []string{"a"}, Stmts: []api.Stmt{{Kind: "copy", Args: []int{}}, {Kind: "call", Args: []int{}}}},
	} {
		if err := Check(p); err != nil {
			t.Errorf("%s: %v", name, err)
		}
	}
}

// P20: names that are none, of variables and of functions.
func TestCheckNames(t *testing.T) {
	for _, name := range []string{"", "ninechars", "A", "aB", "1", "1a", "a_", "a b", " a", "a ", "a\n", "a\x00", "é", "aé", "ａ", "a\xff", "`", "{", "a/", "a:", "var", "fn", "new", "call", strings.Repeat("a", 5000)} {
		p := api.Program{Vars: []string{"a", name}}
		if err := Check(p); err != api.ErrName {
			t.Errorf("variable %q: %v", name, err)
		}
		p = api.Program{Vars: []string{"a"}, Funs: []api.Fun{{Name: "f"}, {Name: name}}}
		if err := Check(p); err != api.ErrName {
			t.Errorf("function %q: %v", name, err)
		}
	}
}

// P20: of the whole and of functions, bare, each error ahead of those named behind it.
func TestCheckWhole(t *testing.T) {
	for name, x := range map[string]struct {
		want error
		do   func(p *api.Program)
	}{
		"variables":      {api.ErrFull, func(p *api.Program) { p.Vars = numbered(api.MaxVars + 1) }},
		"functions":      {api.ErrFull, func(p *api.Program) { p.Funs = make([]api.Fun, api.MaxFuns+1) }},
		"statements":     {api.ErrFull, func(p *api.Program) { p.Stmts = make([]api.Stmt, api.MaxStmts+1) }},
		"full, name":     {api.ErrFull, func(p *api.Program) { p.Vars[0] = ""; p.Stmts = make([]api.Stmt, api.MaxStmts+1) }},
		"name, exist":    {api.ErrName, func(p *api.Program) { p.Vars[1] = "a"; p.Funs[1].Name = "new" }},
		"same variables": {api.ErrExist, func(p *api.Program) { p.Vars[2] = "a" }},
		"same functions": {api.ErrExist, func(p *api.Program) { p.Funs[1].Name = "f" }},
		"exist, args":    {api.ErrExist, func(p *api.Program) { p.Funs[1].Name = "f"; p.Funs[0].Params = []int{0, 1, 2, 9} }},
		"args":           {api.ErrArgs, func(p *api.Program) { p.Funs[1].Params = []int{0, 1, 2, 2} }},
		"args, bound":    {api.ErrArgs, func(p *api.Program) { p.Funs[0].Ret = 3; p.Funs[1].Params = make([]int, 4) }},
		"param":          {api.ErrBound, func(p *api.Program) { p.Funs[0].Params[1] = 3 }},
		"param below":    {api.ErrBound, func(p *api.Program) { p.Funs[0].Params[0] = -1 }},
		"param far":      {api.ErrBound, func(p *api.Program) { p.Funs[0].Params[0] = math.MinInt }},
		"ret":            {api.ErrBound, func(p *api.Program) { p.Funs[1].Ret = 3 }},
		"ret below":      {api.ErrBound, func(p *api.Program) { p.Funs[1].Ret = -1 }},
		"bound, exist":   {api.ErrBound, func(p *api.Program) { p.Funs[0].Params[1] = 0; p.Funs[1].Ret = math.MaxInt }},
		"same params":    {api.ErrExist, func(p *api.Program) { p.Funs[0].Params[1] = 0 }},
		"far params":     {api.ErrExist, func(p *api.Program) { p.Funs[0].Params = []int{2, 0, 2} }},
		"exist, kind":    {api.ErrExist, func(p *api.Program) { p.Funs[0].Params[1] = 0; p.Stmts[0].Kind = "" }},
		"no variable":    {api.ErrBound, func(p *api.Program) { *p = api.Program{Funs: []api.Fun{{Name: "f"}}} }},
	} {
		if err := Check(changed(x.do)); err != x.want {
			t.Errorf("%s: %v, want %v", name, err, x.want)
		}
	}
}

// P20: of statements, with the place of the first one that is wrong.
func TestCheckStatements(t *testing.T) {
	type want struct {
		s   api.Stmt
		err error
	}
	wrong := []want{
		{api.Stmt{}, api.ErrKind},
		{api.Stmt{Kind: "what", X: -1, Args: []int{0}}, api.ErrKind},
		{api.Stmt{Kind: "Copy"}, api.ErrKind},
		{api.Stmt{Kind: "fn"}, api.ErrKind},
		{api.Stmt{Kind: "new", X: 3}, api.ErrBound},
		{api.Stmt{Kind: "new", X: -1, Y: 1}, api.ErrBound},
		{api.Stmt{Kind: "new", Args: []int{3}}, api.ErrBound},
		{api.Stmt{Kind: "new", Y: 1}, api.ErrShape},
		{api.Stmt{Kind: "new", Y: -1}, api.ErrShape},
		{api.Stmt{Kind: "new", Y: 99}, api.ErrShape},
		{api.Stmt{Kind: "new", Args: []int{0}}, api.ErrShape},
		{api.Stmt{Kind: "fun", Y: 2}, api.ErrBound},
		{api.Stmt{Kind: "fun", Y: -1}, api.ErrBound},
		{api.Stmt{Kind: "fun", X: 3}, api.ErrBound},
		{api.Stmt{Kind: "fun", Args: []int{0}}, api.ErrShape},
		{api.Stmt{Kind: "call", Args: []int{0, -1}}, api.ErrBound},
		{api.Stmt{Kind: "call", Args: []int{0, 0, 0, 3}}, api.ErrBound},
		{api.Stmt{Kind: "call", Args: []int{0, 0, 0, 0}}, api.ErrArgs},
	}
	for _, kind := range []string{"addr", "copy", "load", "store", "call"} {
		wrong = append(wrong,
			want{api.Stmt{Kind: kind, X: 3}, api.ErrBound},
			want{api.Stmt{Kind: kind, X: -1}, api.ErrBound},
			want{api.Stmt{Kind: kind, Y: 3}, api.ErrBound},
			want{api.Stmt{Kind: kind, Y: math.MinInt}, api.ErrBound},
			want{api.Stmt{Kind: kind, Args: []int{3}}, api.ErrBound})
		if kind != "call" {
			wrong = append(wrong,
				want{api.Stmt{Kind: kind, Args: []int{0}}, api.ErrShape},
				want{api.Stmt{Kind: kind, Args: []int{0, 0, 0, 0}}, api.ErrShape})
		}
	}
	for _, x := range wrong {
		for at := range 9 {
			p := changed(func(p *api.Program) { p.Stmts[at] = x.s; p.Stmts = append(p.Stmts, api.Stmt{}) })
			if err := Check(p); !sameError(err, at, x.err) {
				t.Errorf("%v at %d: %v, want %v", x.s, at, err, x.err)
			}
		}
	}
}

// P20, P23: variables, then places, then functions.
func TestNumbers(t *testing.T) {
	p := sample()
	if Objects(p) != 7 || Nodes(p) != 5 {
		t.Error(Objects(p), Nodes(p))
	}
	for o, want := range map[int]int{-1: -1, 0: -1, 2: -1, 3: -1, 4: -1, 5: 0, 6: 1, 7: -1, math.MinInt: -1, math.MaxInt: -1} {
		if got := Fun(p, o); got != want {
			t.Errorf("Fun %d: %d, want %d", o, got, want)
		}
	}
	for k, want := range map[int]int{-1: -1, 0: -1, 1: -1, 2: 3, 3: -1, 4: -1, 5: 4, 6: -1, 8: -1, 9: -1, math.MinInt: -1, math.MaxInt: -1} {
		if got := Place(p, k); got != want {
			t.Errorf("Place %d: %d, want %d", k, got, want)
		}
	}
	if p := (api.Program{Vars: []string{"a"}, Stmts: []api.Stmt{{Kind: "new"}, {Kind: "new"}}}); Place(p, 0) != 1 || Place(p, 1) != 2 || Nodes(p) != 3 || Objects(p) != 3 {
		t.Error("places alone", Place(p, 0), Place(p, 1))
	}
	if p := greatest(); Objects(p) != 46 || Nodes(p) != 40 || Fun(p, 45) != 5 || Fun(p, 39) != -1 {
		t.Error("greatest")
	}
	if Objects(api.Program{}) != 0 || Nodes(api.Program{}) != 0 || Fun(api.Program{}, 0) != -1 || Place(api.Program{}, 0) != -1 {
		t.Error("empty")
	}
}

// P22, P23: of a program that is not well.
func TestNotWell(t *testing.T) {
	for _, do := range []func(p *api.Program){
		func(p *api.Program) { p.Vars[0] = "" },
		func(p *api.Program) { p.Funs[0].Ret = -1 },
		func(p *api.Program) { p.Stmts[8].Args = []int{3} },
		func(p *api.Program) { p.Stmts = append(p.Stmts, make([]api.Stmt, 80)...) },
	} {
		p := changed(do)
		if Text(p) != "" || Objects(p) != 0 || Nodes(p) != 0 || Fun(p, 5) != -1 || Place(p, 2) != -1 {
			t.Error(Check(p), Text(p), Objects(p), Nodes(p), Fun(p, 5), Place(p, 2))
		}
	}
}

// P3, P4: what is handed over stays, and what lies behind a list's length is nobody's.
func TestOnlyRead(t *testing.T) {
	p, hidden := sample(), sample()
	hidden.Vars = append(hidden.Vars, "", "A")[:3]
	hidden.Funs = append(hidden.Funs, api.Fun{Ret: -1})[:2]
	hidden.Funs[0].Params = append(hidden.Funs[0].Params, 0, 9)[:2]
	hidden.Stmts = append(hidden.Stmts, api.Stmt{})[:9]
	hidden.Stmts[7].Args = append(hidden.Stmts[7].Args, 9, 9)[:2]
	if Check(hidden) != nil || Text(hidden) != Text(p) || Objects(hidden) != 7 || Nodes(hidden) != 5 || Fun(hidden, 5) != 0 || Place(hidden, 2) != 3 {
		t.Error("what lies behind was read")
	}
	if !reflect.DeepEqual(hidden, p) || hidden.Vars[:5][4] != "A" || hidden.Funs[:3][2].Ret != -1 || !slices.Equal(hidden.Stmts[7].Args[:4], []int{2, 2, 9, 9}) {
		t.Error("what was handed over was changed")
	}
	s := Text(p)
	q, err := Read(s)
	if err != nil {
		t.Fatal(err)
	}
	q.Vars[0], q.Funs[0].Name, q.Funs[0].Params[0], q.Stmts[7].Args[0] = "x", "x", 9, 9
	if again, err := Read(s); err != nil || !reflect.DeepEqual(again, p) {
		t.Error("an answer is shared", again, err)
	}
}

// P4: no two lists of one answer share memory, so what is written behind one doesn't show in another.
func TestListsApart(t *testing.T) {
	s := "var a\nvar b\nfn f(a, b) a\nfn g(b) b\na = call a(a, b, a)\na = call a(b)\n"
	q, err := Read(s)
	if err != nil {
		t.Fatal(err)
	}
	for _, l := range [][]int{q.Funs[0].Params, q.Funs[1].Params, q.Stmts[0].Args, q.Stmts[1].Args} {
		behind := l[len(l):cap(l)]
		for i := range behind {
			behind[i] = 9
		}
	}
	if Text(q) != s {
		t.Error(Text(q))
	}
}
