package calls

import (
	"reflect"
	"slices"
	"testing"

	"fingerpost/api"
	"fingerpost/prog"
	"fingerpost/run"
	"fingerpost/set"
)

// asked of a program, once for all its runs: what each statement may change, and which are idle.
type asked struct {
	p      api.Program
	writes [][]int
	idle   []int
}

func ask(t *testing.T, p api.Program) asked {
	t.Helper()
	a := asked{p: p}
	var err error
	if a.idle, err = Idle(p); err != nil {
		t.Fatal(prog.Text(p), err)
	}
	for k := range p.Stmts {
		l, err := Writes(p, k)
		if err != nil {
			t.Fatal(prog.Text(p), k, err)
		}
		a.writes = append(a.writes, l)
	}
	return a
}

func (a asked) do(t *testing.T, script []int) run.State {
	t.Helper()
	s, err := run.Do(a.p, script)
	if err != nil {
		t.Fatal(prog.Text(a.p), script, err)
	}
	return s
}

// changed are the nodes of variables and things that have something else than before.
func (a asked) changed(old, now run.State) []int {
	var l []int
	for n, v := range now.Vars {
		if v != old.Vars[n] {
			l = append(l, n)
		}
	}
	for n, v := range old.Things {
		if now.Things[n] != v {
			l = append(l, prog.Place(a.p, now.Places[n]))
		}
	}
	return l
}

// follow a script's last statement: what it changes is one of what may be changed, and if it is idle it does nothing; how much it changed.
func (a asked) follow(t *testing.T, script []int, old, now run.State) int {
	t.Helper()
	k := script[len(script)-1]
	changed := a.changed(old, now)
	if !set.Within(changed, a.writes[k]) {
		t.Fatalf("%sby %v: statement %d changed %v, and may change %v", prog.Text(a.p), script, k, changed, a.writes[k])
	}
	if set.Has(a.idle, k) && !reflect.DeepEqual(old, now) {
		t.Fatalf("%sby %v: statement %d is idle, and did something: %v, then %v", prog.Text(a.p), script, k, old, now)
	}
	return len(changed)
}

// P92: every short script of small programs.
func TestShortScripts(t *testing.T) {
	for _, p := range small(t) {
		a := ask(t, p)
		var grow func(script []int, old run.State)
		grow = func(script []int, old run.State) {
			for k := range p.Stmts {
				longer := append(slices.Clone(script), k)
				now := a.do(t, longer)
				a.follow(t, longer, old, now)
				if len(longer) < 5 {
					grow(longer, now)
				}
			}
		}
		grow(nil, a.do(t, nil))
	}
}

// P92: longer scripts of programs of every size, statement by statement.
func TestLongScripts(t *testing.T) {
	d, changed := dice(92), map[string]int{}
	for _, p := range many(t) {
		if len(p.Stmts) == 0 {
			continue
		}
		a := ask(t, p)
		script := d.list(120, len(p.Stmts))
		old := a.do(t, nil)
		for n := range script {
			now := a.do(t, script[:n+1])
			changed[p.Stmts[script[n]].Kind] += a.follow(t, script[:n+1], old, now)
			old = now
		}
	}
	for _, kind := range []string{"addr", "new", "copy", "load", "store", "fun", "call"} {
		if changed[kind] < 50 {
			t.Errorf("%s changed too little to tell anything: %v", kind, changed)
		}
	}
}
