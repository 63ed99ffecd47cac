package cons

import (
	"fmt"
	"reflect"
	"slices"
	"strconv"
	"testing"

	"fingerpost/api"
	"fingerpost/prog"
)

func read(t *testing.T, text string) api.Program {
	t.Helper()
	p, err := prog.Read(text)
	if err != nil {
		t.Fatalf("%q: %v", text, err)
	}
	return p
}

// sameError: at -1 asks for the bare error, else for a Fault there.
func sameError(err error, at int, want error) bool {
	if at < 0 {
		return err == want
	}
	f, ok := err.(*api.Fault)
	return ok && f.At == at && f.Err == want
}

// greatest reaches every bound of a program; its statements are the same one, over and over.
func greatest(s api.Stmt) api.Program {
	var p api.Program
	for i := range api.MaxVars {
		p.Vars = append(p.Vars, "v"+strconv.Itoa(i))
	}
	for i := range api.MaxFuns {
		p.Funs = append(p.Funs, api.Fun{Name: "f" + strconv.Itoa(i), Params: []int{3*i + 1, 3*i + 2, 3*i + 3}, Ret: api.MaxVars - 1 - i})
	}
	p.Stmts = slices.Repeat([]api.Stmt{s}, api.MaxStmts)
	return p
}

// P40: each kind of statement alone.
func TestRuleOfStatement(t *testing.T) {
	const head = "var a\nvar b\nvar c\nfn f(a) b\nfn g() c\n"
	for stmt, want := range map[string]string{
		"b = &c":              "[{base 1 2 0 []}]",
		"c = &c":              "[{base 2 2 0 []}]",
		"b = new":             "[{base 1 3 0 []}]",
		"b = fn f":            "[{base 1 3 0 []}]",
		"c = fn g":            "[{base 2 4 0 []}]",
		"b = c":               "[{copy 2 1 0 []}]",
		"b = b":               "[{copy 1 1 0 []}]",
		"b = *c":              "[{load 2 1 0 []}]",
		"*b = c":              "[{store 2 1 0 []}]",
		"b = call c()":        "[{call 2 1 0 []}]",
		"b = call c(a)":       "[{call 2 1 0 [0]}]",
		"b = call c(c, a, c)": "[{call 2 1 0 [2 0 2]}]",
	} {
		l, err := Of(read(t, head+stmt+"\n"))
		if got := fmt.Sprint(l); got != want || err != nil {
			t.Errorf("%s: %s, %v, want %s", stmt, got, err, want)
		}
	}
}

// P40: a rule of each statement, in order; places count up, and functions stand behind all of them.
func TestRulesInOrder(t *testing.T) {
	p := read(t, "var a\nvar b\nfn f() a\nfn g(b) b\na = fn g\na = new\nb = a\na = fn f\nb = new\na = new\na = call b(b, b)\n")
	l, err := Of(p)
	want := "[{base 0 6 0 []} {base 0 2 1 []} {copy 0 1 2 []} {base 0 5 3 []} {base 1 3 4 []} {base 0 4 5 []} {call 1 0 6 [1 1]}]"
	if got := fmt.Sprint(l); got != want || err != nil {
		t.Errorf("%s, %v, want %s", got, err, want)
	}
	if l, err := Of(api.Program{}); len(l) != 0 || err != nil {
		t.Errorf("the empty program: %v, %v", l, err)
	}
	if l, err := Of(read(t, "var a\nfn f() a\n")); len(l) != 0 || err != nil {
		t.Errorf("no statements: %v, %v", l, err)
	}
}

// P40: as many statements as there may be, each with the object that package prog tells.
func TestMostRules(t *testing.T) {
	p := greatest(api.Stmt{Kind: "new", X: 7})
	p.Stmts[40] = api.Stmt{Kind: "fun", X: 39, Y: 5}
	l, err := Of(p)
	if len(l) != api.MaxStmts || err != nil {
		t.Fatalf("%d rules, %v", len(l), err)
	}
	for k, r := range l {
		want := Rule{Kind: KindBase, A: 7, B: prog.Place(p, k), Stmt: k}
		if k == 40 {
			want.A, want.B = 39, prog.Objects(p)-1
		}
		if !reflect.DeepEqual(r, want) {
			t.Errorf("rule %d is %v, want %v", k, r, want)
		}
	}
}

// P40: Check's errors, with Check's places.
func TestOfWrong(t *testing.T) {
	for name, x := range map[string]struct {
		p    api.Program
		at   int
		want error
	}{
		"full":  {api.Program{Stmts: make([]api.Stmt, api.MaxStmts+1)}, -1, api.ErrFull},
		"name":  {api.Program{Vars: []string{"a", "new"}}, -1, api.ErrName},
		"exist": {api.Program{Vars: []string{"a", "a"}}, -1, api.ErrExist},
		"ret":   {api.Program{Funs: []api.Fun{{Name: "f"}}}, -1, api.ErrBound},
		"kind":  {api.Program{Vars: []string{"a"}, Stmts: []api.Stmt{{Kind: "new"}, {Kind: "base"}}}, 1, api.ErrKind},
		"bound": {api.Program{Vars: []string{"a"}, Stmts: []api.Stmt{{Kind: "copy", Y: 1}}}, 0, api.ErrBound},
		"args":  {api.Program{Vars: []string{"a"}, Stmts: []api.Stmt{{Kind: "call", Args: make([]int, 4)}}}, 0, api.ErrArgs},
		"shape": {api.Program{Vars: []string{"a"}, Stmts: []api.Stmt{{Kind: "new"}, {Kind: "new"}, {Kind: "new", Y: 1}}}, 2, api.ErrShape},
	} {
		if l, err := Of(x.p); len(l) != 0 || !sameError(err, x.at, x.want) {
			t.Errorf("%s: %v, %v, want %v at %d", name, l, err, x.want, x.at)
		}
	}
}

// P3, P4: what is handed over stays, also behind its length, and rules share nothing with it nor with each other.
func TestRulesAreNew(t *testing.T) {
	whole := []int{0, 1, 9, 9}
	call := api.Stmt{Kind: "call", X: 0, Y: 1, Args: whole[:2]}
	p := api.Program{Vars: []string{"a", "b"}, Stmts: []api.Stmt{call, call}}
	l, err := Of(p)
	if err != nil || len(l) != 2 {
		t.Fatal(l, err)
	}
	l[0].Args[0] = 7
	_ = append(l[0].Args, 8)
	if !slices.Equal(whole, []int{0, 1, 9, 9}) || !slices.Equal(l[1].Args, []int{0, 1}) {
		t.Error("a rule shares its args:", whole, l)
	}
	whole[1] = 0
	if !slices.Equal(l[1].Args, []int{0, 1}) {
		t.Error("an argument is kept:", l)
	}
}
