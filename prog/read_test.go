package prog

import (
	"math/rand"
	"reflect"
	"strings"
	"testing"

	"fingerpost/api"
)

// sampleText is the sample as the document writes it.
const sampleText = `var a
var b
var c1
fn f(a, b) c1
fn g() a
a = &b
b = a
c1 = new
a = *c1
*c1 = a
a = new
b = fn g
a = call b(c1, c1)
c1 = call c1()
`

// head has two variables and one function: the statement behind it is line 3.
const head = "var a\nvar b\nfn f(a) b\n"

// P21, P22: each kind has a line of its own.
func TestKinds(t *testing.T) {
	for line, want := range map[string]api.Stmt{
		"a = &b":                  {Kind: "addr", X: 0, Y: 1},
		"b = a":                   {Kind: "copy", X: 1, Y: 0},
		"a = *b":                  {Kind: "load", X: 0, Y: 1},
		"*a = b":                  {Kind: "store", X: 0, Y: 1},
		"b = new":                 {Kind: "new", X: 1},
		"b = fn f":                {Kind: "fun", X: 1, Y: 0},
		"a = call b()":            {Kind: "call", X: 0, Y: 1},
		"b = call a(b)":           {Kind: "call", X: 1, Y: 0, Args: []int{1}},
		"a = call b(a, b, a)":     {Kind: "call", X: 0, Y: 1, Args: []int{0, 1, 0}},
		"news = call varx(fn1)":   {Kind: "call", X: 2, Y: 3, Args: []int{4}},
		"*news = varx":            {Kind: "store", X: 2, Y: 3},
		"fn1 = news":              {Kind: "copy", X: 4, Y: 2},
		"varx = fn f":             {Kind: "fun", X: 3, Y: 0},
		"varx = callings":         {Kind: "copy", X: 3, Y: 5},
		"callings = call a(varx)": {Kind: "call", X: 5, Y: 0, Args: []int{3}},
	} {
		p := api.Program{Vars: []string{"a", "b", "news", "varx", "fn1", "callings"}, Funs: []api.Fun{{Name: "f", Params: []int{0}, Ret: 1}}, Stmts: []api.Stmt{want}}
		s := "var a\nvar b\nvar news\nvar varx\nvar fn1\nvar callings\nfn f(a) b\n" + line + "\n"
		if Text(p) != s {
			t.Errorf("%v: %q, want %q", want, Text(p), s)
		}
		if q, err := Read(s); err != nil || !reflect.DeepEqual(q, p) {
			t.Errorf("%q: %v %v", s, q, err)
		}
	}
}

// P22: a whole program, both ways; the empty one is the empty text.
func TestTextAndRead(t *testing.T) {
	if s := Text(sample()); s != sampleText {
		t.Error(s)
	}
	if q, err := Read(sampleText); err != nil || !reflect.DeepEqual(q, sample()) {
		t.Error(q, err)
	}
	if s := Text(api.Program{}); s != "" {
		t.Error(s)
	}
	if q, err := Read(""); err != nil || !reflect.DeepEqual(q, api.Program{}) {
		t.Error(q, err)
	}
}

// A variable and a function of one name are looked for apart.
func TestNamesApart(t *testing.T) {
	p := api.Program{Vars: []string{"x", "f"}, Funs: []api.Fun{{Name: "g"}, {Name: "f", Ret: 1}}, Stmts: []api.Stmt{{Kind: "fun", X: 1, Y: 1}, {Kind: "copy", X: 0, Y: 1}}}
	if q, err := Read("var x\nvar f\nfn g() x\nfn f() f\nf = fn f\nx = f\n"); err != nil || !reflect.DeepEqual(q, p) {
		t.Error(q, err)
	}
	if _, err := Read("var x\nfn g() x\nx = g\n"); !sameError(err, 2, api.ErrNone) {
		t.Error("a function for a variable", err)
	}
	if _, err := Read("var x\nfn g() x\nx = fn x\n"); !sameError(err, 2, api.ErrNone) {
		t.Error("a variable for a function", err)
	}
}

// wrongAt asks for a Fault at this line, and for nothing beside it.
func wrongAt(t *testing.T, s string, at int, want error) {
	t.Helper()
	if q, err := Read(s); !sameError(err, at, want) || !reflect.DeepEqual(q, api.Program{}) {
		t.Errorf("%q: %v %v, want %v at %d", s, q, err, want, at)
	}
}

// P22: lines that are none, wherever they stand.
func TestReadText(t *testing.T) {
	for _, line := range []string{
		"", " ", "var", "var ", "var  a", " var x", "var x ", "var A", "var 1", "var x\r", "var x y", "var x,y", "var fn", "var var", "var new", "var call", "var ninechars", "Var x", "vara",
		"fn", "fn ", "fn g", "fn g a", "fn g()", "fn g() ", "fn g()a", "fn g()  a", "fn g() a ", "fn  g() a", "fn g () a", "fn (a) a", "fn g(a,b) a", "fn g(a, b,) a", "fn g(a, ) a", "fn g(, a) a", "fn g( a) a", "fn g(a ) a", "fn g( ) a", "fn g(a b) a", "fn g(a  b) a", "fn g(a,  b) a", "fn g(a a", "fn ga) a", "fn g)a( a", "fn g((a) a", "fn g(a)) a", "fn g() a b", "fn new() a", "fn g(call) a", "fn g() var", "fn 1() a", "fn ninechars() a", "fn g(&a) a", "fn g(a, b) *a",
		"a", "a =", "a = ", "= b", " = b", "a=b", "a  = b", "a =  b", " a = b", "a = b ", "a = b = a", "a = = b", "a == b", "a = b\r", "a\t=\tb", "a = B", "a = 1", "1 = a", "a b", "a, b = a",
		"a = & b", "a = &", "a = &&b", "a = &*b", "&a = b", "a = &b ", "a = &new", "a = &ninechars",
		"a = * b", "a = *", "a = **b", "a = *b ", "* a = b", "*a", "*a = ", "* = b", "**a = b", "*a = *b", "*a = &b", "*a = new", "*a = fn f", "*a = call b()", "*a= b", "*a =b",
		"a = new ", "a = new()", "a = New", "new = a", "a = news()", "new", "= new", " = new",
		"a = fn", "a = fn ", "a = fn  f", "a = fn f ", "a = fn f()", "a = fn call", "a = fnf f", "a = fn &f", "fn = a",
		"a = call", "a = call ", "a = call b", "a = call b(", "a = call b)", "a = call b(a", "a = call b(a) ", "a = call  b(a)", "a = call b (a)", "a = call b(a,a)", "a = call b(a, )", "a = call b(, a)", "a = call b( )", "a = call b(a ,a)", "a = call b(a))", "a = call b((a)", "a = call b()()", "a = call (a)", "a = call fn(a)", "a = call b(new)", "a = call b(&a)", "a = call *b()", "call b()", "a = callb()", "a = b()", "call = a", "a = var", "var = a",
		"a = \xff", "\xff", "a = é", "\x00", "// a", "a = b;",
	} {
		wrongAt(t, head+line+"\n", 3, api.ErrText)
		wrongAt(t, line+"\n", 0, api.ErrText)
		wrongAt(t, sampleText+line+"\n"+"also none\n", 14, api.ErrText)
	}
}

// P22: a line out of the order of variables, functions, statements, and a line without its end.
func TestReadOrder(t *testing.T) {
	wrongAt(t, head+"var c\n", 3, api.ErrText)
	wrongAt(t, "var a\na = a\nvar c\n", 2, api.ErrText)
	wrongAt(t, "var a\na = a\nfn f() a\n", 2, api.ErrText)
	wrongAt(t, "var a\na = a\nfn f(c) a\n", 2, api.ErrText)
	wrongAt(t, "fn f() a\nvar a\n", 0, api.ErrNone)
	wrongAt(t, "a = b\n", 0, api.ErrNone)
	wrongAt(t, "var a", 0, api.ErrText)
	wrongAt(t, "x", 0, api.ErrText)
	wrongAt(t, "var a\nvar b", 1, api.ErrText)
	wrongAt(t, head+"a = c", 3, api.ErrText)
	wrongAt(t, "\n", 0, api.ErrText)
	wrongAt(t, "\nvar a\n", 0, api.ErrText)
	wrongAt(t, "var a\n\n", 1, api.ErrText)
	wrongAt(t, "var a\n\nvar b\n", 1, api.ErrText)
}

// P22: names that are not there; on one line behind ErrText, among lines the first one counts.
func TestReadNone(t *testing.T) {
	for _, line := range []string{
		"fn g(c) a", "fn g(a, c) a", "fn g(c, a) a", "fn g() c", "fn g(g) a", "fn f() f", "fn g(c, c, c, c) c",
		"a = &c", "c = &a", "a = c", "c = a", "c = d", "a = *c", "c = *a", "*a = c", "*c = a", "c = new", "a = fn g", "c = fn f", "c = fn g", "a = f", "a = fn a",
		"a = call c()", "c = call a()", "a = call a(c)", "a = call b(a, a, c)", "a = call b(a, a, a, c)", "a = call f()",
	} {
		wrongAt(t, head+line+"\n", 3, api.ErrNone)
		wrongAt(t, head+line+"\nnone at all\n", 3, api.ErrNone)
	}
	wrongAt(t, head+"a = call c(a, )\n", 3, api.ErrText)
	wrongAt(t, head+"c = call a(A)\n", 3, api.ErrText)
	wrongAt(t, head+"none at all\na = c\n", 3, api.ErrText)
	wrongAt(t, head+"a = b\na = c\n", 4, api.ErrNone)
	wrongAt(t, "var a\nvar a\na = c\n", 2, api.ErrNone)
}

// P22: what Check says of the whole, bare even where Check tells a place.
func TestReadCheck(t *testing.T) {
	for s, want := range map[string]error{
		"var " + strings.Join(numbered(41), "\nvar ") + "\n":             api.ErrFull,
		"var a\nfn " + strings.Join(numbered(7), "() a\nfn ") + "() a\n": api.ErrFull,
		"var a\n" + strings.Repeat("a = a\n", 81):                        api.ErrFull,
		"var a\nvar a\n" + strings.Repeat("a = a\n", 81):                 api.ErrFull,
		"var a\nvar b\nvar a\n":                                          api.ErrExist,
		"var a\nfn f() a\nfn f() a\n":                                    api.ErrExist,
		"var a\nvar a\nfn f(a, a, a, a) a\n":                             api.ErrExist,
		"var a\nfn f(a, a, a, a) a\n":                                    api.ErrArgs,
		"var a\nfn f(a, a) a\n":                                          api.ErrExist,
		"var a\na = call a(a, a, a, a)\n":                                api.ErrArgs,
		"var a\nfn f(a, a) a\na = call a(a, a, a, a)\n":                  api.ErrExist,
	} {
		wrongAt(t, s, -1, want)
	}
}

// P22: MaxText bytes may be read, one more may not, whatever they are.
func TestReadBound(t *testing.T) {
	rest := "var abcdefgh\n" + strings.Repeat("abcdefgh = call abcdefgh(abcdefgh, abcdefgh, abcdefgh)\n", 72) + "abcdefgh = &abcdefgh\n"
	s := "var a\n" + rest
	if q, err := Read(s); len(s) != api.MaxText || err != nil || Text(q) != s {
		t.Error(len(s), err)
	}
	for _, s := range []string{"var ab\n" + rest, strings.Repeat("\n", 4001), strings.Repeat("var a\n", 667), strings.Repeat("x", 100000)} {
		wrongAt(t, s, -1, api.ErrBound)
	}
	wrongAt(t, strings.Repeat("\n", 4000), 0, api.ErrText)
}

// drawn is any program that is well: the same one for the same source.
func drawn(r *rand.Rand) api.Program {
	var p api.Program
	vars := 1 + r.Intn(api.MaxVars)
	for i, name := range numbered(vars) {
		p.Vars = append(p.Vars, name[i%4:])
	}
	funs := r.Intn(api.MaxFuns + 1)
	for _, name := range numbered(funs) {
		params := r.Perm(vars)
		p.Funs = append(p.Funs, api.Fun{Name: name, Params: some(params[:r.Intn(min(vars, api.MaxParams)+1)]), Ret: r.Intn(vars)})
	}
	kinds := []string{"addr", "copy", "load", "store", "new", "call", "fun"}
	if funs == 0 {
		kinds = kinds[:6]
	}
	for range r.Intn(api.MaxStmts + 1) {
		s := api.Stmt{Kind: kinds[r.Intn(len(kinds))], X: r.Intn(vars), Y: r.Intn(vars)}
		switch s.Kind {
		case "new":
			s.Y = 0
		case "fun":
			s.Y = r.Intn(funs)
		case "call":
			for range r.Intn(api.MaxParams + 1) {
				s.Args = append(s.Args, r.Intn(vars))
			}
		}
		p.Stmts = append(p.Stmts, s)
	}
	return p
}

// some is nil where it is empty, so that programs can be held against each other whole.
func some(l []int) []int { return append([]int(nil), l...) }

// P24: a program is read as it was written, but one whose text is too long to be read.
func TestReadAsWritten(t *testing.T) {
	r := rand.New(rand.NewSource(24))
	for range 2000 {
		p := drawn(r)
		if err := Check(p); err != nil {
			t.Fatal(p, err)
		}
		if q, err := Read(Text(p)); err != nil || !reflect.DeepEqual(q, p) {
			t.Fatal(Text(p), q, err)
		}
	}
	s := Text(greatest())
	if len(s) <= api.MaxText || strings.Count(s, "\n") != api.MaxVars+api.MaxFuns+api.MaxStmts {
		t.Error(s)
	}
	wrongAt(t, s, -1, api.ErrBound)
}

// P22, P24: a text with one byte changed, put in or taken out is none, or is just what is written of what was read.
func TestOnlyWhatIsWritten(t *testing.T) {
	const bytes = "abfgz019 ()=&*,\n\rA\xff"
	ask := func(s string) {
		q, err := Read(s)
		if err == nil && Text(q) != s || err != nil && !reflect.DeepEqual(q, api.Program{}) {
			t.Errorf("%q: %v %v", s, q, err)
		}
	}
	for i := range len(sampleText) {
		ask(sampleText[:i])
		ask(sampleText[i:])
		ask(sampleText[:i] + sampleText[i+1:])
		for j := range len(bytes) {
			ask(sampleText[:i] + bytes[j:j+1] + sampleText[i:])
			ask(sampleText[:i] + bytes[j:j+1] + sampleText[i+1:])
		}
	}
}
