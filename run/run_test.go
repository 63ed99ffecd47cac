package run

import (
	"fmt"
	"math"
	"reflect"
	"slices"
	"testing"

	"fingerpost/api"
	"fingerpost/prog"
)

func read(t *testing.T, text string) api.Program {
	t.Helper()
	p, err := prog.Read(text)
	if err != nil {
		t.Fatalf("%q: %v", text, err)
	}
	return p
}

// inOrder is the script that does every statement once.
func inOrder(p api.Program) []int {
	l := make([]int, len(p.Stmts))
	for i := range l {
		l[i] = i
	}
	return l
}

func told(s State) string { return fmt.Sprint(s.Vars, s.Things, s.Places) }

// expect does a script (nil: every statement, once) and holds what comes of it against a text.
func expect(t *testing.T, text string, script []int, want string) {
	t.Helper()
	p := read(t, text)
	if script == nil {
		script = inOrder(p)
	}
	s, err := Do(p, script)
	if got := told(s); got != want || err != nil {
		t.Errorf("%q by %v: %s, %v, want %s", text, script, got, err, want)
	}
}

func isEmpty(s State) bool { return len(s.Vars)+len(s.Things)+len(s.Places) == 0 }

// P30: at first all have none, and there are no things.
func TestAtFirst(t *testing.T) {
	expect(t, "", nil, "[] [] []")
	expect(t, "var a\nvar b\nfn f(a) b\na = &b\nb = new\n", []int{}, "[{none 0} {none 0}] [] []")
	if s, err := Do(api.Program{}, nil); !isEmpty(s) || err != nil {
		t.Errorf("the empty program: %v, %v", s, err)
	}
}

// P31: each kind of statement, where it can be done.
func TestStatements(t *testing.T) {
	const vars = "var a\nvar b\nvar c\n"
	for _, x := range []struct{ stmts, want string }{
		{"a = &c\n", "[{var 2} {none 0} {none 0}] [] []"},
		{"a = &a\n", "[{var 0} {none 0} {none 0}] [] []"},
		{"a = &c\nb = a\n", "[{var 2} {var 2} {none 0}] [] []"},
		{"a = &b\nb = &c\nc = *a\n", "[{var 1} {var 2} {var 2}] [] []"},
		{"a = &a\nb = *a\n", "[{var 0} {var 0} {none 0}] [] []"},
		{"a = &b\nb = &c\na = *a\n", "[{var 2} {var 2} {none 0}] [] []"},
		{"a = &b\nc = &c\n*a = c\n", "[{var 1} {var 2} {var 2}] [] []"},
		{"a = &a\nb = &c\n*a = b\n", "[{var 2} {var 2} {none 0}] [] []"},
		{"a = &b\n*a = a\n", "[{var 1} {var 1} {none 0}] [] []"},
		{"b = new\n", "[{none 0} {thing 0} {none 0}] [{none 0}] [0]"},
		{"a = &c\na = new\nb = new\n", "[{thing 0} {thing 1} {none 0}] [{none 0} {none 0}] [1 2]"},
		{"a = new\n*a = a\nb = *a\n", "[{thing 0} {thing 0} {none 0}] [{thing 0}] [0]"},
		{"a = new\nb = a\n*a = b\na = new\n*b = a\nc = *b\n", "[{thing 1} {thing 0} {thing 1}] [{thing 1} {none 0}] [0 3]"},
	} {
		expect(t, vars+x.stmts, nil, x.want)
	}
}

// P31: none is something that a variable or a thing may have, so it is handed on like anything else.
func TestNoneIsHandedOn(t *testing.T) {
	const vars = "var a\nvar b\nvar c\n"
	for _, x := range []struct{ stmts, want string }{
		{"a = &b\na = c\n", "[{none 0} {none 0} {none 0}] [] []"},
		{"a = &b\nc = &a\nc = *a\n", "[{var 1} {none 0} {none 0}] [] []"},
		{"a = &b\nb = &c\n*a = c\n", "[{var 1} {none 0} {none 0}] [] []"},
		{"a = new\nc = &a\nc = *a\n", "[{thing 0} {none 0} {none 0}] [{none 0}] [0]"},
		{"a = new\n*a = a\n*a = b\n", "[{thing 0} {none 0} {none 0}] [{none 0}] [0]"},
	} {
		expect(t, vars+x.stmts, nil, x.want)
	}
	const fun = "var a\nvar b\nvar c\nvar d\nfn f(a) b\na = &a\nd = &a\nc = fn f\nd = call c(b)\n"
	expect(t, fun, nil, "[{none 0} {none 0} {fun 0} {none 0}] [] []")
}

// P31: the script's order counts, not the program's, and a statement may be done again.
func TestOrderOfScript(t *testing.T) {
	const text = "var a\nvar b\na = new\nb = a\n"
	expect(t, text, []int{1, 0}, "[{thing 0} {none 0}] [{none 0}] [0]")
	expect(t, text, []int{0, 1, 0}, "[{thing 1} {thing 0}] [{none 0} {none 0}] [0 0]")
	expect(t, "var a\nvar b\na = new\nb = new\n", []int{1, 0, 1}, "[{thing 1} {thing 2}] [{none 0} {none 0} {none 0}] [1 0 1]")
	expect(t, "var a\na = new\na = new\na = &a\n", []int{2, 1, 0, 1}, "[{thing 2}] [{none 0} {none 0} {none 0}] [1 0 1]")
}

// P31: two things of one statement are two.
func TestThingsOfOnePlace(t *testing.T) {
	const text = "var a\nvar b\na = new\nb = a\n*a = b\n"
	expect(t, text, []int{0, 1, 0, 2}, "[{thing 1} {thing 0}] [{none 0} {thing 0}] [0 0]")
}

// P31: params get what args have at once; then x gets what Ret has.
func TestCalls(t *testing.T) {
	const vars = "var a\nvar b\nvar c\nvar f\n"
	for _, x := range []struct{ rest, want string }{
		{"fn g() b\nb = &c\nf = fn g\na = call f()\n", "[{var 2} {var 2} {none 0} {fun 0}] [] []"},
		{"fn g(b) b\nc = &c\nf = fn g\na = call f(c)\n", "[{var 2} {var 2} {var 2} {fun 0}] [] []"},
		{"fn g(a, b) a\na = &a\nb = &b\nf = fn g\nc = call f(b, a)\n", "[{var 1} {var 0} {var 1} {fun 0}] [] []"},
		{"fn g(a, b, c) b\na = &a\nb = &b\nc = &c\nf = fn g\nf = call f(c, a, b)\n", "[{var 2} {var 0} {var 1} {var 0}] [] []"},
		{"fn g(a, b) a\nc = &c\nf = fn g\na = call f(c, c)\n", "[{var 2} {var 2} {var 2} {fun 0}] [] []"},
		{"fn g(a) b\nb = &b\nc = &c\nf = fn g\na = call f(c)\n", "[{var 1} {var 1} {var 2} {fun 0}] [] []"},
		{"fn g(f) f\nc = &c\nf = fn g\na = call f(c)\n", "[{var 2} {none 0} {var 2} {var 2}] [] []"},
		{"fn g(a) a\nf = fn g\nb = call f(f)\nc = call a(b)\n", "[{fun 0} {fun 0} {fun 0} {fun 0}] [] []"},
		{"fn g(a) a\nfn h(b) b\nc = new\nf = fn h\nf = call f(c)\n", "[{none 0} {thing 0} {thing 0} {thing 0}] [{none 0}] [0]"},
	} {
		expect(t, vars+x.rest, nil, x.want)
	}
}

// P31: what can't be done does nothing, also to params, to x, and to what there is.
func TestNothingDone(t *testing.T) {
	const head = "var a\nvar b\nvar c\nvar f\nfn one(b) b\nfn two(b, c) c\nfn no() a\na = &a\nb = &b\n"
	for _, x := range []struct{ stmts, want string }{
		{"a = *c\n", "[{var 0} {var 1} {none 0} {none 0}] [] []"},
		{"*c = a\n", "[{var 0} {var 1} {none 0} {none 0}] [] []"},
		{"a = call c(a)\n", "[{var 0} {var 1} {none 0} {none 0}] [] []"},
		{"a = call c()\n", "[{var 0} {var 1} {none 0} {none 0}] [] []"},
		{"f = fn one\na = *f\n", "[{var 0} {var 1} {none 0} {fun 0}] [] []"},
		{"f = fn one\n*f = a\nc = *f\n", "[{var 0} {var 1} {none 0} {fun 0}] [] []"},
		{"f = fn one\na = call f()\n", "[{var 0} {var 1} {none 0} {fun 0}] [] []"},
		{"f = fn one\na = call f(f, f)\n", "[{var 0} {var 1} {none 0} {fun 0}] [] []"},
		{"f = fn two\na = call f(f)\n", "[{var 0} {var 1} {none 0} {fun 1}] [] []"},
		{"f = fn two\na = call f(f, f, f)\n", "[{var 0} {var 1} {none 0} {fun 1}] [] []"},
		{"f = fn no\nb = call f(f)\n", "[{var 0} {var 1} {none 0} {fun 2}] [] []"},
		{"c = call a(c)\n", "[{var 0} {var 1} {none 0} {none 0}] [] []"},
		{"f = new\na = call f(c)\n", "[{var 0} {var 1} {none 0} {thing 0}] [{none 0}] [2]"},
		{"c = &f\nf = fn two\na = call c(f, f)\n", "[{var 0} {var 1} {var 3} {fun 1}] [] []"},
	} {
		expect(t, head+x.stmts, nil, x.want)
	}
}

// P31: Check's errors with Check's places, then ErrFull, bare, then the place in the script.
func TestDoWrong(t *testing.T) {
	p := read(t, "var a\nvar b\na = &b\nb = new\n")
	unnamed := api.Program{Vars: []string{""}}
	noKind := api.Program{Vars: []string{"a"}, Stmts: []api.Stmt{{Kind: "new"}, {Kind: "what"}}}
	long := make([]int, api.MaxSteps+1)
	longWrong := slices.Repeat([]int{-1}, api.MaxSteps+1)
	lastWrong := append(make([]int, api.MaxSteps-1), 2)
	for name, x := range map[string]struct {
		p      api.Program
		script []int
		at     int
		want   error
	}{
		"name":             {unnamed, nil, -1, api.ErrName},
		"name, full":       {unnamed, long, -1, api.ErrName},
		"name, bound":      {unnamed, []int{7}, -1, api.ErrName},
		"kind":             {noKind, nil, 1, api.ErrKind},
		"kind, full":       {noKind, long, 1, api.ErrKind},
		"kind, bound":      {noKind, []int{-1}, 1, api.ErrKind},
		"full":             {p, long, -1, api.ErrFull},
		"full, bound":      {p, longWrong, -1, api.ErrFull},
		"above":            {p, []int{2}, 0, api.ErrBound},
		"below":            {p, []int{0, 1, -1}, 2, api.ErrBound},
		"first of several": {p, []int{0, 2, -1, 9}, 1, api.ErrBound},
		"far above":        {p, []int{1, math.MaxInt}, 1, api.ErrBound},
		"far below":        {p, []int{1, math.MinInt}, 1, api.ErrBound},
		"the last":         {p, lastWrong, api.MaxSteps - 1, api.ErrBound},
		"no statements":    {api.Program{}, []int{0}, 0, api.ErrBound},
	} {
		s, err := Do(x.p, x.script)
		if !isEmpty(s) || !sameError(err, x.at, x.want) {
			t.Errorf("%s: %v, %v, want %v at %d", name, s, err, x.want, x.at)
		}
	}
}

// sameError: at -1 asks for the bare error, else for a Fault there.
func sameError(err error, at int, want error) bool {
	if at < 0 {
		return err == want
	}
	f, ok := err.(*api.Fault)
	return ok && f.At == at && f.Err == want
}

// P31: as many steps as there may be, each of which makes a thing; then a chain of things, each of which has the one made ahead of it.
func TestMostSteps(t *testing.T) {
	p := read(t, "var a\nvar b\na = new\n*a = b\nb = a\n")
	script := slices.Repeat([]int{0}, api.MaxSteps)
	s, err := Do(p, script)
	if err != nil || len(s.Things) != api.MaxSteps || len(s.Places) != api.MaxSteps || s.Vars[0] != (Value{KindThing, api.MaxSteps - 1}) {
		t.Fatalf("%d things, %d places, %v, %v", len(s.Things), len(s.Places), s.Vars, err)
	}
	s, err = Do(p, slices.Repeat([]int{0, 1, 2}, api.MaxSteps/3))
	if err != nil || len(s.Things) != api.MaxSteps/3 {
		t.Fatalf("%d things, %v", len(s.Things), err)
	}
	for i, v := range s.Things {
		want := Value{KindThing, i - 1}
		if i == 0 {
			want = Value{Kind: KindNone}
		}
		if v != want {
			t.Errorf("thing %d has %v, want %v", i, v, want)
		}
	}
}

// P32: objects of variables, of places however many things one has, and of functions.
func TestObject(t *testing.T) {
	p := read(t, "var a\nvar b\nfn f(a) b\nfn g() a\na = &b\nb = new\na = b\na = new\n")
	s, err := Do(p, []int{3, 1, 3, 1})
	if err != nil {
		t.Fatal(err)
	}
	for _, x := range []struct {
		v    Value
		want int
	}{
		{Value{"var", 0}, 0}, {Value{"var", 1}, 1}, {Value{"var", 2}, -1}, {Value{"var", -1}, -1},
		{Value{"thing", 0}, 3}, {Value{"thing", 1}, 2}, {Value{"thing", 2}, 3}, {Value{"thing", 3}, 2}, {Value{"thing", 4}, -1}, {Value{"thing", -1}, -1},
		{Value{"fun", 0}, 4}, {Value{"fun", 1}, 5}, {Value{"fun", 2}, -1}, {Value{"fun", -1}, -1},
		{Value{"none", 0}, -1}, {Value{"none", 1}, -1}, {Value{"", 0}, -1}, {Value{"what", 0}, -1}, {Value{"Var", 0}, -1}, {Value{"fn", 0}, -1}, {Value{"new", 0}, -1},
		{Value{"var", math.MaxInt}, -1}, {Value{"thing", math.MaxInt}, -1}, {Value{"fun", math.MaxInt}, -1},
		{Value{"var", math.MinInt}, -1}, {Value{"thing", math.MinInt}, -1}, {Value{"fun", math.MinInt}, -1},
	} {
		if got := Object(p, s, x.v); got != x.want {
			t.Errorf("Object(%v) = %d, want %d", x.v, got, x.want)
		}
	}
}

// P32: a state that no run made, and a program that is not well.
func TestObjectWrong(t *testing.T) {
	p := read(t, "var a\nfn f() a\na = new\na = a\n")
	s := State{Things: make([]Value, 6), Places: []int{1, -1, 2, math.MaxInt, math.MinInt, 0}}
	for n, want := range []int{-1, -1, -1, -1, -1, 1} {
		if got := Object(p, s, Value{KindThing, n}); got != want {
			t.Errorf("thing %d of statement %d: %d, want %d", n, s.Places[n], got, want)
		}
	}
	if got := Object(p, State{}, Value{KindThing, 0}); got != -1 {
		t.Errorf("a thing of no state: %d", got)
	}
	short := State{Things: make([]Value, 2), Places: s.Places[5:5]}
	if got := Object(p, short, Value{KindThing, 0}); got != -1 {
		t.Errorf("a thing behind the list's length: %d", got)
	}
	p.Vars = append(p.Vars, "")
	for _, kind := range []string{KindNone, KindVar, KindThing, KindFun} {
		if got := Object(p, State{Places: []int{0}}, Value{Kind: kind}); got != -1 {
			t.Errorf("%s of a program that is not well: %d", kind, got)
		}
	}
}

// every is a program with all kinds of statements, whose short scripts are all done below.
const every = "var a\nvar b\nvar c\nfn f(a, b) b\nfn g(c) a\na = &b\nb = a\nc = *a\n*a = c\nb = new\nc = fn f\na = call c(b, a)\nc = call b(c)\nb = fn g\n"

// eachScript calls do with every script of n of the statements.
func eachScript(stmts, n int, do func(script []int)) {
	script := make([]int, n)
	for {
		do(script)
		i := 0
		for i < n && script[i] == stmts-1 {
			script[i] = 0
			i++
		}
		if i == n {
			return
		}
		script[i]++
	}
}

// P33: the same script does the same; and what it makes is a state whose values all have objects.
func TestSameAgain(t *testing.T) {
	p := read(t, every)
	eachScript(len(p.Stmts), 4, func(script []int) {
		s, err := Do(p, script)
		again, err2 := Do(p, slices.Clone(script))
		if err != nil || err2 != nil || !reflect.DeepEqual(s, again) {
			t.Fatalf("%v: %v, %v and %v, %v", script, s, err, again, err2)
		}
		for _, v := range slices.Concat(s.Vars, s.Things) {
			if o := Object(p, s, v); (o == -1) != (v == Value{Kind: KindNone}) || o >= prog.Objects(p) {
				t.Fatalf("%v: the object of %v is %d", script, v, o)
			}
		}
	})
}

// P33: what a run did does not show in another one.
func TestRunsApart(t *testing.T) {
	p := read(t, every)
	want, _ := Do(p, []int{1, 3})
	if _, err := Do(p, inOrder(p)); err != nil {
		t.Fatal(err)
	}
	if _, err := Do(p, []int{0, 99}); err == nil {
		t.Fatal("no error")
	}
	if got, err := Do(p, []int{1, 3}); !reflect.DeepEqual(got, want) || err != nil {
		t.Errorf("%v, %v, want %v", got, err, want)
	}
}

// P3, P4: what is handed over stays, also behind its length; what is answered is new memory.
func TestOnlyRead(t *testing.T) {
	p, whole := read(t, every), []int{4, 0, 3, 99, -1}
	s, err := Do(p, whole[:3])
	if err != nil || !reflect.DeepEqual(p, read(t, every)) || !slices.Equal(whole, []int{4, 0, 3, 99, -1}) {
		t.Fatal("changed:", p, whole, err)
	}
	want := told(s)
	other, _ := Do(p, whole[:3])
	for i := range other.Vars {
		other.Vars[i].N = 7
	}
	other.Things[0].Kind = "spoilt"
	other.Places[0] = 7
	if told(s) != want || !slices.Equal(whole, []int{4, 0, 3, 99, -1}) {
		t.Error("an answer shares memory:", told(s), whole)
	}
	p.Stmts[4].Kind, whole[0] = "what", 0
	if told(s) != want {
		t.Error("an argument is kept:", told(s))
	}
	kept := State{Places: []int{4}}
	if Object(read(t, every), kept, Value{KindThing, 0}) != 3 || kept.Places[0] != 4 {
		t.Error("Object changes a state", kept)
	}
}
