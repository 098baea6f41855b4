package tree

import (
	"strings"

	"cabinetry/api"
	"cabinetry/lex"
	"cabinetry/val"
)

// meter counts nodes and levels; it stops when there are too many, so that any argument ends.
type meter struct {
	nodes, levels int
}

func (m *meter) isOver() bool {
	return m.nodes > api.MaxNodes || m.levels > api.MaxNest
}

func (m *meter) node(level int) {
	m.nodes++
	m.levels = max(m.levels, level)
}

func (m *meter) exprs(l []api.Expr, level int) {
	for i := range l {
		if m.isOver() {
			return
		}
		m.node(level)
		m.exprs(l[i].L, level+1)
	}
}

func (m *meter) stmts(l []api.Stmt, level int) {
	for i := range l {
		if m.isOver() {
			return
		}
		s := &l[i]
		m.node(level)
		m.exprs(s.X, level+1)
		m.exprs(s.C.N, level+1)
		m.exprs(s.C.For, level+1)
		m.exprs(s.C.While, level+1)
		for _, b := range s.B {
			m.stmts(b, level+1)
		}
	}
}

func measure(p []api.Proc) meter {
	var m meter
	for _, proc := range p {
		m.stmts(proc.Body, 1)
	}
	return m
}

func measureExpr(x api.Expr) meter {
	var m meter
	m.exprs([]api.Expr{x}, 1)
	return m
}

// Validate tells whether p is a program.
func Validate(p []api.Proc) api.Errno {
	if m := measure(p); m.isOver() {
		return api.ErrLarge
	}
	if !isProgram(p) {
		return api.ErrArg
	}
	return api.OK
}

// ValidateExpr tells whether x is an expression.
func ValidateExpr(x api.Expr) api.Errno {
	if m := measureExpr(x); m.isOver() {
		return api.ErrLarge
	}
	if !isExpr(x) {
		return api.ErrArg
	}
	return api.OK
}

func areNames(l []string) bool {
	for _, s := range l {
		if !lex.IsName(s) {
			return false
		}
	}
	return true
}

func areExprs(l []api.Expr) bool {
	for _, x := range l {
		if !isExpr(x) {
			return false
		}
	}
	return true
}

// isExpr tells whether a node has just what it needs.
func isExpr(x api.Expr) bool {
	if x.Op != api.XConst && x.V != (api.Value{}) || x.Op != api.XBlock && len(x.P) > 0 || !areExprs(x.L) {
		return false
	}
	parts := len(x.L)
	switch x.Op {
	case api.XConst:
		return x.S == "" && parts == 0 && isConstant(x.V)
	case api.XName, api.XRef:
		return lex.IsName(x.S) && parts == 0
	case api.XAlias:
		return lex.IsName(x.S) && parts == 1
	case api.XCall:
		return lex.IsName(x.S)
	case api.XUn:
		return (x.S == "-" || x.S == ".NOT.") && parts == 1
	case api.XBin:
		return isOperator(x.S) && parts == 2
	case api.XIndex:
		return x.S == "" && parts == 2
	case api.XList:
		return x.S == "" && parts > 0
	case api.XBlock:
		return x.S == "" && parts == 1 && areNames(x.P)
	case api.XMacro:
		return x.S == "" && parts == 1 || lex.IsName(x.S) && parts == 0
	}
	return false
}

func isOperator(s string) bool {
	switch s {
	case ".OR.", ".AND.", "=", "==", "<>", "<", ">", "<=", ">=", "$", "+", "-", "*", "/", "%", "^":
		return true
	}
	return false
}

// isConstant tells whether a value can be written in a source.
func isConstant(v api.Value) bool {
	if val.Validate(v) != api.OK {
		return false
	}
	switch v.Kind {
	case api.Num:
		return v.N >= 0 && v.N < api.MaxNum
	case api.Text:
		return isLine(v.S) && !(strings.Contains(v.S, "\"") && strings.Contains(v.S, "'"))
	}
	return true
}

// isLine tells whether a text has no byte that a line of a source has not.
func isLine(s string) bool {
	for i := range len(s) {
		if c := s[i]; c != '\t' && (c < 32 || c > 126) {
			return false
		}
	}
	return true
}

func isProgram(p []api.Proc) bool {
	if len(p) == 0 || p[0].Name != mainName || p[0].Fn || len(p[0].P) > 0 || hasTwice(p) {
		return false
	}
	words := Words()
	for _, proc := range p {
		if !lex.IsName(proc.Name) || !areNames(proc.P) || !areStmts(proc.Body, words) {
			return false
		}
	}
	return true
}

func hasTwice(p []api.Proc) bool {
	seen := map[string]bool{}
	for _, proc := range p {
		if seen[proc.Name] {
			return true
		}
		seen[proc.Name] = true
	}
	return false
}

func areStmts(l []api.Stmt, words []string) bool {
	for _, s := range l {
		if !isStmt(s, words) {
			return false
		}
	}
	return true
}

// parts is how many of each a statement has.
type parts struct {
	p, x, b int
}

func isStmt(s api.Stmt, words []string) bool {
	if !areNames(s.P) || !areExprs(s.X) {
		return false
	}
	for _, b := range s.B {
		if !areStmts(b, words) {
			return false
		}
	}
	n := parts{len(s.P), len(s.X), len(s.B)}
	if s.Op == api.SCmd {
		return n.b == 0 && isCommand(s, n, words) && isScope(s)
	}
	if s.T != "" || !isNoScope(s.C) || n.p > 0 && s.Op != api.SDeclare {
		return false
	}
	switch s.Op {
	case api.SFor:
		return lex.IsName(s.S) && n.x == 3 && n.b == 1
	case api.SDo:
		return lex.IsName(s.S) && !standsFor(s.S, words, "CASE", "WHILE") && n.b == 0
	case api.SDeclare:
		return isDeclaring(s.S) && n.p > 0 && n.x == n.p && n.b == 0
	case api.SGuard:
		return n.x == 0 && (n.b == 1 && s.S == "" || n.b == 2 && (s.S == "" || lex.IsName(s.S)))
	}
	return s.S == "" && isUnnamed(s, n, words)
}

func isDeclaring(s string) bool {
	return s == "LOCAL" || s == "PRIVATE" || s == "PUBLIC" || s == "STATIC"
}

// isUnnamed tells whether a statement without texts has just what it needs.
func isUnnamed(s api.Stmt, n parts, words []string) bool {
	switch s.Op {
	case api.SSet:
		return n.x == 2 && n.b == 0 && isTarget(s.X[0])
	case api.SPrint:
		return n.b == 0
	case api.SIf:
		return n.x > 0 && (n.b == n.x || n.b == n.x+1)
	case api.SWhile:
		return n.x == 1 && n.b == 1
	case api.SLoop, api.SExit:
		return n.x == 0 && n.b == 0
	case api.SReturn, api.SBreak:
		return n.x <= 1 && n.b == 0
	case api.SEval:
		if n.x != 1 || n.b > 0 || s.X[0].Op != api.XCall {
			return false
		}
		_, isWord := lex.Full(s.X[0].S, words)
		return !isWord
	}
	return false
}

func isTarget(x api.Expr) bool {
	switch x.Op {
	case api.XName, api.XMacro:
		return true
	case api.XAlias, api.XIndex:
		return x.L[0].Op == api.XName
	}
	return false
}

func standsFor(name string, words []string, some ...string) bool {
	w, ok := lex.Full(name, words)
	if !ok {
		return false
	}
	for _, s := range some {
		if w == s {
			return true
		}
	}
	return false
}

func isCommand(s api.Stmt, n parts, words []string) bool {
	switch s.S {
	case "GO":
		return isGo(s, n, words)
	case "INDEX":
		tags := n.p == 1 || n.p == 2 && s.P[1] == "DESCENDING"
		return tags && (n.x == 1 || n.x == 2) && (s.T == "" || s.T == "UNIQUE" || s.T == "CANDIDATE")
	case "EXACT", "DELETED":
		return n.p == 0 && n.x == 0 && (s.T == "ON" || s.T == "OFF")
	}
	if s.T != "" {
		return false
	}
	switch s.S {
	case "SELECT", "COUNT":
		return n.p == 1 && n.x == 0
	case "USE":
		return n.p <= 2 && n.x == 0
	case "SKIP", "FILTER":
		return n.p == 0 && n.x <= 1
	case "SEEK":
		return n.p == 0 && n.x == 1
	case "REPLACE":
		return n.p > 0 && n.x == n.p
	case "SUM":
		return n.p == 1 && n.x == 1
	case "ORDER":
		return n.p <= 1 && n.x == 0
	case "RELATION":
		return n.p <= 1 && n.x == n.p
	case "LOCATE", "CONTINUE", "DELETE", "RECALL", "APPEND", "PACK", "ZAP":
		return n.p == 0 && n.x == 0
	}
	return false
}

func isGo(s api.Stmt, n parts, words []string) bool {
	if n.p > 0 {
		return false
	}
	if s.T != "" {
		return n.x == 0 && (s.T == "TOP" || s.T == "BOTTOM")
	}
	return n.x == 1 && !(s.X[0].Op == api.XName && standsFor(s.X[0].S, words, "TOP", "BOTTOM"))
}

func isNoScope(c api.Scope) bool {
	return c.Kind == api.Usual && len(c.N)+len(c.For)+len(c.While) == 0
}

// isScope tells whether the scope of a command is right.
func isScope(s api.Stmt) bool {
	switch s.S {
	case "LOCATE", "REPLACE", "DELETE", "RECALL", "COUNT", "SUM":
	default:
		return isNoScope(s.C)
	}
	c := s.C
	wanted := 0
	if c.Kind == api.Next || c.Kind == api.Single {
		wanted = 1
	}
	return c.Kind >= api.Usual && c.Kind <= api.Single && len(c.N) == wanted && len(c.For) <= 1 && len(c.While) <= 1 &&
		areExprs(c.N) && areExprs(c.For) && areExprs(c.While)
}
