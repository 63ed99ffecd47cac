package prog

import (
	"errors"
	"slices"
	"strings"

	"fingerpost/api"
)

// none is the number of a name that is not there.
const none = -1

// sentence is a statement whose names are not looked for yet: a line that is none is told ahead of a name that is not there.
type sentence struct {
	kind, x, y string
	args       []string
}

// Read a program.
func Read(s string) (api.Program, error) {
	if len(s) > api.MaxText {
		return api.Program{}, api.ErrBound
	}
	p, err := readLines(s)
	if err != nil {
		return api.Program{}, err
	}
	if err := Check(p); err != nil {
		return api.Program{}, bare(err)
	}
	return p, nil
}

func readLines(s string) (api.Program, error) {
	var p api.Program
	for at := 0; s != ""; at++ {
		line, rest, ended := strings.Cut(s, "\n")
		if !ended {
			return p, &api.Fault{At: at, Err: api.ErrText}
		}
		if err := readLine(&p, line); err != nil {
			return p, &api.Fault{At: at, Err: err}
		}
		s = rest
	}
	return p, nil
}

// bare takes the place away, because a statement's number would look like a line's.
func bare(err error) error {
	var f *api.Fault
	if errors.As(err, &f) {
		return f.Err
	}
	return err
}

func readLine(p *api.Program, line string) error {
	if name, ok := strings.CutPrefix(line, "var "); ok {
		return readVar(p, name)
	}
	if rest, ok := strings.CutPrefix(line, "fn "); ok {
		return readFun(p, rest)
	}
	return readStmt(p, line)
}

// readVar, as readFun, makes its name anew, so that the program doesn't hold on to the text.
func readVar(p *api.Program, name string) error {
	if !isName(name) || len(p.Funs) > 0 || len(p.Stmts) > 0 {
		return api.ErrText
	}
	p.Vars = append(p.Vars, strings.Clone(name))
	return nil
}

func readFun(p *api.Program, rest string) error {
	name, params, behind, ok := cutList(rest)
	ret, blank := strings.CutPrefix(behind, " ")
	if !ok || !blank || !isName(ret) || len(p.Stmts) > 0 {
		return api.ErrText
	}
	find := finder(p.Vars)
	f := api.Fun{Name: strings.Clone(name), Params: each(params, find), Ret: find(ret)}
	if slices.Contains(f.Params, none) || f.Ret == none {
		return api.ErrNone
	}
	p.Funs = append(p.Funs, f)
	return nil
}

func readStmt(p *api.Program, line string) error {
	w, ok := parse(line)
	if !ok {
		return api.ErrText
	}
	find := finder(p.Vars)
	s := api.Stmt{Kind: w.kind, X: find(w.x), Args: each(w.args, find)}
	switch w.kind {
	case KindNew:
	case KindFun:
		s.Y = finder(funNames(*p))(w.y)
	default:
		s.Y = find(w.y)
	}
	if s.X == none || s.Y == none || slices.Contains(s.Args, none) {
		return api.ErrNone
	}
	p.Stmts = append(p.Stmts, s)
	return nil
}

func parse(line string) (sentence, bool) {
	left, right, _ := strings.Cut(line, " = ")
	if x, ok := strings.CutPrefix(left, "*"); ok {
		return sentence{kind: KindStore, x: x, y: right}, isName(x) && isName(right)
	}
	w, ok := parseRight(right)
	w.x = left
	return w, ok && isName(left)
}

func parseRight(right string) (sentence, bool) {
	if right == "new" {
		return sentence{kind: KindNew}, true
	}
	if rest, ok := strings.CutPrefix(right, "call "); ok {
		y, args, behind, ok := cutList(rest)
		return sentence{kind: KindCall, y: y, args: args}, ok && behind == ""
	}
	for _, form := range []struct{ mark, kind string }{{"&", KindAddr}, {"*", KindLoad}, {"fn ", KindFun}} {
		if y, ok := strings.CutPrefix(right, form.mark); ok {
			return sentence{kind: form.kind, y: y}, isName(y)
		}
	}
	return sentence{kind: KindCopy, y: right}, isName(right)
}

// cutList parts a name, the names in brackets behind it, and what stands behind the brackets.
func cutList(s string) (name string, names []string, behind string, ok bool) {
	name, rest, opened := strings.Cut(s, "(")
	inner, behind, closed := strings.Cut(rest, ")")
	if inner != "" {
		names = strings.Split(inner, ", ")
	}
	return name, names, behind, opened && closed && isName(name) && all(names, isName)
}
