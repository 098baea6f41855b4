package tree

import (
	"strconv"
	"strings"

	"cabinetry/api"
	"cabinetry/val"
)

// Text returns the text of a program.
func Text(p []api.Proc) (string, api.Errno) {
	if e := Validate(p); e != api.OK {
		return "", e
	}
	var w writer
	for i, proc := range p {
		if i > 0 {
			w.line(0, heading(proc))
		}
		w.block(0, proc.Body)
	}
	return fitting(w.out.String())
}

// ExprText returns the text of an expression.
func ExprText(x api.Expr) (string, api.Errno) {
	if e := ValidateExpr(x); e != api.OK {
		return "", e
	}
	return fitting(text(x))
}

func fitting(s string) (string, api.Errno) {
	if len(s) > api.MaxSource {
		return "", api.ErrLarge
	}
	return s, api.OK
}

func text(x api.Expr) string {
	switch x.Op {
	case api.XConst:
		return constantText(x.V)
	case api.XAlias:
		if x.L[0].Op == api.XName {
			return x.S + "->" + x.L[0].S
		}
		return x.S + "->(" + text(x.L[0]) + ")"
	case api.XCall:
		return x.S + "(" + texts(x.L) + ")"
	case api.XUn:
		if x.S == "-" {
			return "-" + operand(x.L[0])
		}
		return x.S + " " + operand(x.L[0])
	case api.XBin:
		return operand(x.L[0]) + " " + x.S + " " + operand(x.L[1])
	case api.XIndex:
		return operand(x.L[0]) + "[" + text(x.L[1]) + "]"
	case api.XList:
		return "{" + texts(x.L) + "}"
	case api.XBlock:
		return "{|" + strings.Join(x.P, ", ") + "| " + text(x.L[0]) + "}"
	case api.XMacro:
		if x.S != "" {
			return "&" + x.S + "."
		}
		return "&(" + text(x.L[0]) + ")"
	case api.XRef:
		return "@" + x.S
	}
	return x.S
}

func texts(l []api.Expr) string {
	var out []string
	for _, x := range l {
		out = append(out, text(x))
	}
	return strings.Join(out, ", ")
}

func operand(x api.Expr) string {
	if x.Op == api.XUn || x.Op == api.XBin {
		return "(" + text(x) + ")"
	}
	return text(x)
}

func constantText(v api.Value) string {
	switch v.Kind {
	case api.Truth:
		if v.N == 1 {
			return ".T."
		}
		return ".F."
	case api.Num:
		return strconv.Itoa(v.N)
	case api.Date:
		if v.N == 0 {
			return "{}"
		}
		s, _ := val.Show(v)
		return "{^" + s + "}"
	case api.Text:
		if strings.Contains(v.S, "\"") {
			return "'" + v.S + "'"
		}
		return "\"" + v.S + "\""
	}
	return ".NULL."
}

func heading(p api.Proc) string {
	s := "PROCEDURE "
	if p.Fn {
		s = "FUNCTION "
	}
	s += p.Name
	if len(p.P) > 0 {
		s += "(" + strings.Join(p.P, ", ") + ")"
	}
	return s
}

// writer writes lines that are moved in.
type writer struct {
	out strings.Builder
}

func (w *writer) line(in int, parts ...string) {
	w.out.WriteString(strings.Repeat("  ", in))
	w.out.WriteString(strings.Join(parts, ""))
	w.out.WriteString("\n")
}

func (w *writer) block(in int, l []api.Stmt) {
	for _, s := range l {
		w.stmt(in, s)
	}
}

func (w *writer) stmt(in int, s api.Stmt) {
	switch s.Op {
	case api.SIf:
		w.ifs(in, s)
	case api.SWhile:
		w.line(in, "DO WHILE ", text(s.X[0]))
		w.block(in+1, s.B[0])
		w.line(in, "ENDDO")
	case api.SFor:
		w.line(in, "FOR ", s.S, " = ", text(s.X[0]), " TO ", text(s.X[1]), step(s.X[2]))
		w.block(in+1, s.B[0])
		w.line(in, "NEXT")
	case api.SGuard:
		w.guard(in, s)
	default:
		w.line(in, simple(s))
	}
}

func step(x api.Expr) string {
	if isOne(x) {
		return ""
	}
	return " STEP " + text(x)
}

func isOne(x api.Expr) bool {
	return x.Op == api.XConst && x.V == api.Value{Kind: api.Num, N: 1}
}

func (w *writer) ifs(in int, s api.Stmt) {
	for i, x := range s.X {
		if i == 0 {
			w.line(in, "IF ", text(x))
		} else {
			w.line(in, "ELSEIF ", text(x))
		}
		w.block(in+1, s.B[i])
	}
	if len(s.B) > len(s.X) {
		w.line(in, "ELSE")
		w.block(in+1, s.B[len(s.X)])
	}
	w.line(in, "ENDIF")
}

func (w *writer) guard(in int, s api.Stmt) {
	w.line(in, "BEGIN SEQUENCE")
	w.block(in+1, s.B[0])
	if len(s.B) > 1 {
		w.line(in, "RECOVER", behind(" USING ", s.S))
		w.block(in+1, s.B[1])
	}
	w.line(in, "END")
}

// behind is a text behind a word, or nothing if it is empty.
func behind(word, s string) string {
	if s == "" {
		return ""
	}
	return word + s
}

// simple is the text of a statement of one line.
func simple(s api.Stmt) string {
	switch s.Op {
	case api.SSet:
		return text(s.X[0]) + " := " + text(s.X[1])
	case api.SPrint:
		return "?" + behind(" ", texts(s.X))
	case api.SDeclare:
		return s.S + " " + declared(s)
	case api.SLoop:
		return "LOOP"
	case api.SExit:
		return "EXIT"
	case api.SReturn:
		return "RETURN" + behind(" ", texts(s.X))
	case api.SBreak:
		return "BREAK" + behind(" ", texts(s.X))
	case api.SDo:
		return "DO " + s.S + behind(" WITH ", texts(s.X))
	case api.SEval:
		return text(s.X[0])
	}
	return command(s)
}

func declared(s api.Stmt) string {
	var l []string
	for i, name := range s.P {
		if x := s.X[i]; x.Op == api.XConst && x.V.Kind == api.Nil {
			l = append(l, name)
		} else {
			l = append(l, name+" := "+text(x))
		}
	}
	return strings.Join(l, ", ")
}

func command(s api.Stmt) string {
	switch s.S {
	case "APPEND":
		return "APPEND BLANK"
	case "USE":
		return "USE" + behind(" ", strings.Join(s.P, " ALIAS "))
	case "REPLACE":
		var l []string
		for i, name := range s.P {
			l = append(l, name+" WITH "+text(s.X[i]))
		}
		return "REPLACE " + strings.Join(l, ", ") + scopeText(s.C)
	case "COUNT", "SUM":
		return s.S + behind(" ", texts(s.X)) + " TO " + s.P[0] + scopeText(s.C)
	case "INDEX":
		return "INDEX ON " + text(s.X[0]) + " TAG " + s.P[0] + behind(" FOR ", texts(s.X[1:])) + behind(" ", s.T) + behind(" ", strings.Join(s.P[1:], ""))
	case "ORDER", "FILTER", "RELATION":
		return "SET " + s.S + " TO" + behind(" ", texts(s.X)) + behind(beforeName(s.S), strings.Join(s.P, ""))
	case "EXACT", "DELETED":
		return "SET " + s.S + " " + s.T
	}
	return s.S + behind(" ", s.T) + behind(" ", strings.Join(s.P, "")) + behind(" ", texts(s.X)) + scopeText(s.C)
}

func beforeName(word string) string {
	if word == "RELATION" {
		return " INTO "
	}
	return " "
}

func scopeText(c api.Scope) string {
	kinds := [...]string{api.Usual: "", api.All: " ALL", api.Next: " NEXT ", api.Rest: " REST", api.Single: " RECORD "}
	return kinds[c.Kind] + texts(c.N) + behind(" FOR ", texts(c.For)) + behind(" WHILE ", texts(c.While))
}
