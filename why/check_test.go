package why

import (
	"math"
	"reflect"
	"slices"
	"testing"

	"fingerpost/api"
	"fingerpost/prog"
)

// proof of the sample, by each kind of statement, of call by each way that it has.
func proof() []Step {
	return steps(
		0, 1, 0, -1, -1, // 0: a has &b
		2, 1, 1, 0, -1, // 1: c has it, by copy
		1, 4, 2, -1, -1, // 2: b has the place
		3, 4, 3, 2, 0, // 3: d has it, by load
		1, 1, 4, 1, 0, // 4: b has &b, by store
		2, 5, 5, -1, -1, // 5: c has f
		3, 4, 6, 2, 5, // 6: d has the place again, as param of f
		2, 1, 6, 0, 5, // 7: c has &b again, as the other param
		3, 1, 6, 4, 5, // 8: d has &b, which f answers, and as param
		2, 6, 7, -1, -1, // 9: c has g
		0, 1, 8, 8, 9, // 10: a has &b again, which g answers
		0, 4, 8, 3, 9, // 11: a has the place
		1, 6, 4, 9, 0, // 12: b has g, by store
		4, 6, 4, 9, 11, // 13: the place has g, by store
		3, 6, 3, 13, 11, // 14: d has g, by load of the place
	)
}

// P80: proofs that are well.
func TestCheckWell(t *testing.T) {
	p, rest := read(t, sample), read(t, "var a\nvar b\na = &a\na = a\na = *a\n*a = a\n")
	l := proof()
	for name, x := range map[string]struct {
		p api.Program
		l []Step
	}{
		"nothing at all":     {api.Program{}, nil},
		"no step":            {p, []Step{}},
		"each kind":          {p, l},
		"one step":           {p, l[:1]},
		"as many as may be":  {p, slices.Repeat(l[:1], api.MaxSteps)},
		"from itself":        {rest, steps(0, 0, 0, -1, -1, 0, 0, 1, 0, -1)},
		"from and by as one": {rest, steps(0, 0, 0, -1, -1, 0, 0, 2, 0, 0, 0, 0, 3, 1, 1, 0, 0, 3, 0, 2)},
	} {
		if err := Check(x.p, x.l); err != nil {
			t.Errorf("%s: %v", name, err)
		}
		if at, err := wantCheck(x.p, x.l); err != nil {
			t.Errorf("%s: the test's own words say %v at %d", name, err, at)
		}
	}
}

// P80: errors ahead of all steps: prog.Check's, then ErrFull.
func TestCheckWhole(t *testing.T) {
	full, wrong := make([]Step, api.MaxSteps+1), steps(0, 0, 99, -1, -1)
	for name, x := range map[string]struct {
		p    api.Program
		l    []Step
		at   int
		want error
	}{
		"full":          {read(t, sample), full, -1, api.ErrFull},
		"full, well":    {read(t, sample), slices.Repeat(proof()[:1], api.MaxSteps+1), -1, api.ErrFull},
		"program: full": {api.Program{Vars: make([]string, api.MaxVars+1)}, nil, -1, api.ErrFull},
		"name, full":    {api.Program{Vars: []string{""}}, full, -1, api.ErrName},
		"name, step":    {api.Program{Vars: []string{"a", "A"}}, wrong, -1, api.ErrName},
		"ret":           {api.Program{Funs: []api.Fun{{Name: "f"}}}, wrong, -1, api.ErrBound},
		"kind, full":    {api.Program{Vars: []string{"a"}, Stmts: []api.Stmt{{Kind: "addr"}, {}}}, full, 1, api.ErrKind},
		"kind, step":    {api.Program{Vars: []string{"a"}, Stmts: []api.Stmt{{Kind: "addr"}, {}}}, wrong, 1, api.ErrKind},
		"shape":         {api.Program{Vars: []string{"a"}, Stmts: []api.Stmt{{Kind: "new", Y: 1}}}, nil, 0, api.ErrShape},
		"no statement":  {api.Program{}, make([]Step, 1), 0, api.ErrBound},
	} {
		if err := Check(x.p, x.l); !sameError(err, x.at, x.want) {
			t.Errorf("%s: %v, want %v at %d", name, err, x.want, x.at)
		}
	}
}

// sameStep asks of a step more, behind the whole proof of the sample.
func sameStep(t *testing.T, name string, s []Step, want error) {
	t.Helper()
	p, ahead := read(t, sample), proof()
	if err := Check(p, append(proof(), s...)); !sameError(err, len(ahead), want) {
		t.Errorf("%s: %v, want %v at %d", name, err, want, len(ahead))
	}
	if err := wantStep(p, ahead, s[0]); err != want {
		t.Errorf("%s: the test's own words say %v, want %v", name, err, want)
	}
}

// P80: numbers that are none, and From and By that the statement has not or lacks, each told ahead of what is named behind it.
func TestCheckNumbers(t *testing.T) {
	n := len(proof())
	for name, x := range map[string]struct {
		s    []Step
		want error
	}{
		"stmt":                 {steps(0, 1, 9, -1, -1), api.ErrBound},
		"stmt below":           {steps(0, 1, -1, -1, -1), api.ErrBound},
		"stmt far":             {steps(0, 1, math.MaxInt, -1, -1), api.ErrBound},
		"stmt far below":       {steps(0, 1, math.MinInt, -1, -1), api.ErrBound},
		"from itself":          {steps(2, 1, 1, n, -1), api.ErrBound},
		"from below":           {steps(2, 1, 1, -2, -1), api.ErrBound},
		"from far":             {steps(2, 1, 1, math.MaxInt, -1), api.ErrBound},
		"from far below":       {steps(2, 1, 1, math.MinInt, -1), api.ErrBound},
		"by itself":            {steps(3, 4, 3, 2, n), api.ErrBound},
		"by below":             {steps(3, 4, 3, 2, -2), api.ErrBound},
		"by far":               {steps(3, 4, 3, 2, math.MaxInt), api.ErrBound},
		"by far below":         {steps(3, 4, 3, 2, math.MinInt), api.ErrBound},
		"bound, shape":         {steps(0, 1, 0, -1, n), api.ErrBound},
		"bound, shape of copy": {steps(2, 1, 1, -1, -2), api.ErrBound},
		"addr from":            {steps(0, 1, 0, 0, -1), api.ErrShape},
		"addr by":              {steps(0, 1, 0, -1, 0), api.ErrShape},
		"new from":             {steps(1, 4, 2, 2, -1), api.ErrShape},
		"new by":               {steps(1, 4, 2, -1, 2), api.ErrShape},
		"fun from":             {steps(2, 5, 5, 5, -1), api.ErrShape},
		"fun by":               {steps(2, 5, 5, -1, 5), api.ErrShape},
		"copy lacks from":      {steps(2, 1, 1, -1, -1), api.ErrShape},
		"copy by":              {steps(2, 1, 1, 0, 0), api.ErrShape},
		"copy by alone":        {steps(2, 1, 1, -1, 0), api.ErrShape},
		"load lacks from":      {steps(3, 4, 3, -1, 0), api.ErrShape},
		"load lacks by":        {steps(3, 4, 3, 2, -1), api.ErrShape},
		"load lacks both":      {steps(3, 4, 3, -1, -1), api.ErrShape},
		"store lacks from":     {steps(1, 1, 4, -1, 0), api.ErrShape},
		"store lacks by":       {steps(1, 1, 4, 1, -1), api.ErrShape},
		"call lacks from":      {steps(3, 4, 6, -1, 5), api.ErrShape},
		"call lacks by":        {steps(3, 4, 6, 2, -1), api.ErrShape},
		"shape, none":          {steps(9, 9, 0, 0, 0), api.ErrShape},
	} {
		sameStep(t, name, x.s, x.want)
	}
}

// P80: of each statement, whatever makes that a step does not follow.
func TestCheckFollows(t *testing.T) {
	for name, s := range map[string][]Step{
		"addr node":               steps(1, 1, 0, -1, -1),
		"addr obj":                steps(0, 0, 0, -1, -1),
		"addr far":                steps(math.MinInt, math.MaxInt, 0, -1, -1),
		"new node":                steps(0, 4, 2, -1, -1),
		"new obj":                 steps(1, 0, 2, -1, -1),
		"fun node":                steps(0, 5, 5, -1, -1),
		"fun number":              steps(2, 0, 5, -1, -1),
		"fun of another one":      steps(2, 6, 5, -1, -1),
		"copy from":               steps(2, 4, 1, 2, -1),
		"copy node":               steps(3, 1, 1, 0, -1),
		"copy obj":                steps(2, 4, 1, 0, -1),
		"load by":                 steps(3, 4, 3, 2, 1),
		"load from":               steps(3, 1, 3, 1, 0),
		"load node":               steps(2, 4, 3, 2, 0),
		"load obj":                steps(3, 1, 3, 2, 0),
		"load of a function":      steps(3, 1, 3, 0, 5),
		"store by":                steps(1, 1, 4, 1, 1),
		"store from":              steps(1, 1, 4, 0, 0),
		"store node":              steps(4, 1, 4, 1, 0),
		"store obj":               steps(1, 4, 4, 1, 0),
		"call by":                 steps(3, 4, 6, 2, 12),
		"call by no function":     steps(3, 4, 6, 2, 1),
		"call other params":       steps(0, 1, 8, 4, 5),
		"call other params still": steps(3, 4, 6, 3, 9),
		"call node":               steps(0, 4, 6, 2, 5),
		"call another arg":        steps(2, 4, 6, 2, 5),
		"call another arg still":  steps(3, 1, 6, 0, 5),
		"call from":               steps(3, 1, 6, 1, 5),
		"call obj":                steps(3, 1, 6, 2, 5),
		"call ret":                steps(0, 4, 8, 2, 9),
	} {
		sameStep(t, name, s, api.ErrNone)
	}
}

// P80: the first step that is wrong is told, whatever comes behind it.
func TestCheckFirst(t *testing.T) {
	p := read(t, sample)
	wrong := steps(9, 9, 0, -1, -1, 0, 1, 0, 0, -1, 0, 1, 9, -1, -1)
	for i, want := range []error{api.ErrNone, api.ErrShape, api.ErrBound} {
		for at := 1; at < len(proof()); at++ {
			l := append(proof(), wrong...)
			l[at] = wrong[i]
			if err := Check(p, l); !sameError(err, at, want) {
				t.Errorf("%v, want %v at %d", err, want, at)
			}
		}
	}
}

// grown is a proof of all that has one: whatever step is well by the document's words, and tells something more.
func grown(p api.Program) []Step {
	var l []Step
	known := map[fact]int{}
	for more := true; more; {
		more = false
		eachStep(p, len(l), func(s Step) {
			if known[fact{s.Node, s.Obj}] == 0 && wantStep(p, l, s) == nil {
				known[fact{s.Node, s.Obj}], more = 1, true
				l = append(l, s)
			}
		})
	}
	return l
}

// eachStep that there could be behind n others, and each number of it also one too low and one too high.
func eachStep(p api.Program, n int, do func(s Step)) {
	for stmt := -1; stmt <= len(p.Stmts); stmt++ {
		for from := -2; from <= n; from++ {
			for by := -2; by <= n; by++ {
				for node := -1; node <= prog.Nodes(p); node++ {
					for obj := -1; obj <= prog.Objects(p); obj++ {
						do(Step{Node: node, Obj: obj, Stmt: stmt, From: from, By: by})
					}
				}
			}
		}
	}
}

// P80, P82: of small programs, all that has a proof by the document's words is the least answer; and Check says of each step behind it what those words say.
func TestEachStep(t *testing.T) {
	for _, p := range small(t) {
		l, has := grown(p), least(t, p)
		if count(has) != len(l) {
			t.Fatalf("%s: %v, proven %v", prog.Text(p), has, l)
		}
		for _, s := range l {
			if !slices.Contains(has[s.Node], s.Obj) {
				t.Fatalf("%s: %v is proven, and not so", prog.Text(p), s)
			}
		}
		well := 0
		eachStep(p, len(l), func(s Step) {
			want := wantStep(p, l, s)
			at := len(l)
			if want == nil {
				at = -1
				well++
			}
			if err := Check(p, append(slices.Clip(l), s)); !sameError(err, at, want) {
				t.Fatalf("%s: %v behind %v: %v, want %v", prog.Text(p), s, l, err, want)
			}
		})
		if well < len(l) {
			t.Errorf("%s: only %d steps are well", prog.Text(p), well)
		}
	}
}

// P3, P4: program and steps are only read, none behind the length, and not kept.
func TestCheckOnlyReads(t *testing.T) {
	p, whole := read(t, sample), append(proof(), steps(9, 9, 9, 9, 9)...)
	l := whole[:len(whole)-1]
	if err := Check(p, l); err != nil || !reflect.DeepEqual(p, read(t, sample)) || !slices.Equal(whole, append(proof(), steps(9, 9, 9, 9, 9)...)) {
		t.Fatal(err, p, whole)
	}
	l[3].Obj = 1
	if err := Check(p, l); !sameError(err, 3, api.ErrNone) {
		t.Error("kept:", err)
	}
	p.Stmts[1].Kind = "what"
	if err := Check(p, l); !sameError(err, 1, api.ErrKind) {
		t.Error("kept:", err)
	}
}
