package prog

import (
	"strings"

	"fingerpost/api"
)

// Text of a program.
func Text(p api.Program) string {
	if Check(p) != nil {
		return ""
	}
	nameOf, funOf := namer(p.Vars), namer(funNames(p))
	var b strings.Builder
	for _, name := range p.Vars {
		b.WriteString("var " + name + "\n")
	}
	for _, f := range p.Funs {
		b.WriteString("fn " + f.Name + list(f.Params, nameOf) + " " + nameOf(f.Ret) + "\n")
	}
	for _, s := range p.Stmts {
		b.WriteString(stmtText(s, nameOf, funOf) + "\n")
	}
	return b.String()
}

func stmtText(s api.Stmt, nameOf, funOf func(n int) string) string {
	x := nameOf(s.X)
	switch s.Kind {
	case KindAddr:
		return x + " = &" + nameOf(s.Y)
	case KindLoad:
		return x + " = *" + nameOf(s.Y)
	case KindStore:
		return "*" + x + " = " + nameOf(s.Y)
	case KindNew:
		return x + " = new"
	case KindFun:
		return x + " = fn " + funOf(s.Y)
	case KindCall:
		return x + " = call " + nameOf(s.Y) + list(s.Args, nameOf)
	}
	return x + " = " + nameOf(s.Y)
}

func list(l []int, nameOf func(n int) string) string {
	return "(" + strings.Join(each(l, nameOf), ", ") + ")"
}
