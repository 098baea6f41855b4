package tree

import (
	"math/rand"
	"strings"
	"testing"

	"cabinetry/api"
)

// maker makes programs, and now and then something wrong in them.
type maker struct {
	r     *rand.Rand
	wrong int // one node of so many is wrong
}

func (m *maker) name() string {
	l := []string{"A", "B", "X_1", "TOP", "BOTT", "CASE", "WHIL", "IF", "COUN", "TO", "NEXT", "END", "ABCDEFGHIJ", "_", "DESCENDING"}
	if m.r.Intn(m.wrong) == 0 {
		l = []string{"", "a", "1A", "ABCDEFGHIJK", "A B", "&", "A.", "A)", "\n"}
	}
	return l[m.r.Intn(len(l))]
}

func (m *maker) names(n int) []string {
	var l []string
	for range n {
		l = append(l, m.name())
	}
	return l
}

func (m *maker) value() api.Value {
	switch m.r.Intn(6) {
	case 0:
		return api.Value{}
	case 1:
		return api.Value{Kind: api.Truth, N: m.r.Intn(2)}
	case 2:
		return api.Value{Kind: api.Date, N: m.r.Intn(3) * 300000}
	case 3:
		return api.Value{Kind: api.Text, S: []string{"", "a", "'", "\"", " && ;", "\t"}[m.r.Intn(6)]}
	case 4:
		if m.r.Intn(m.wrong) == 0 {
			return []api.Value{{Kind: api.Text, S: "'\""}, {Kind: api.Num, N: -1}, {Kind: api.Num, N: api.MaxNum}, {Kind: api.Text, S: "\n"}, {N: 1}, {Kind: 5}, {Kind: api.Text, S: "\x80"}}[m.r.Intn(7)]
		}
	}
	return api.Value{Kind: api.Num, N: m.r.Intn(3)}
}

func (m *maker) exprs(n, depth int) []api.Expr {
	var l []api.Expr
	for range n {
		l = append(l, m.expr(depth))
	}
	return l
}

func (m *maker) count(n int) int {
	if m.r.Intn(m.wrong) == 0 {
		return m.r.Intn(4)
	}
	return n
}

func (m *maker) expr(depth int) api.Expr {
	op := m.r.Intn(11)
	if depth <= 0 {
		op = m.r.Intn(2)
	}
	x := api.Expr{Op: op}
	switch op {
	case api.XConst:
		x.V = m.value()
	case api.XName, api.XRef:
		x.S = m.name()
	case api.XAlias:
		x.S, x.L = m.name(), m.exprs(m.count(1), depth-1)
	case api.XCall:
		x.S, x.L = m.name(), m.exprs(m.r.Intn(3), depth-1)
	case api.XUn:
		x.S, x.L = []string{"-", ".NOT."}[m.r.Intn(2)], m.exprs(m.count(1), depth-1)
	case api.XBin:
		ops := []string{".OR.", ".AND.", "=", "==", "<>", "<", ">", "<=", ">=", "$", "+", "-", "*", "/", "%", "^"}
		x.S, x.L = ops[m.r.Intn(len(ops))], m.exprs(m.count(2), depth-1)
	case api.XIndex:
		x.L = m.exprs(m.count(2), depth-1)
	case api.XList:
		x.L = m.exprs(m.count(1+m.r.Intn(3)), depth-1)
	case api.XBlock:
		x.P, x.L = m.names(m.r.Intn(3)), m.exprs(m.count(1), depth-1)
	case api.XMacro:
		if m.r.Intn(2) == 0 {
			x.S = m.name()
		} else {
			x.L = m.exprs(m.count(1), depth-1)
		}
	}
	switch m.r.Intn(m.wrong * 6) {
	case 0:
		x.S = "A"
	case 1:
		x.Op = m.r.Intn(13) - 1
	case 2:
		x.P = []string{"A"}
	case 3:
		x.V = api.Value{Kind: api.Num, N: 1}
	}
	return x
}

func (m *maker) stmts(depth int) []api.Stmt {
	var l []api.Stmt
	for range m.r.Intn(4) {
		l = append(l, m.stmt(depth))
	}
	return l
}

func (m *maker) blocks(n, depth int) [][]api.Stmt {
	var l [][]api.Stmt
	for range n {
		l = append(l, m.stmts(depth))
	}
	return l
}

func (m *maker) stmt(depth int) api.Stmt {
	s := api.Stmt{Op: m.r.Intn(14)}
	if depth <= 0 && (s.Op == api.SIf || s.Op == api.SWhile || s.Op == api.SFor || s.Op == api.SGuard) {
		s.Op = api.SCmd
	}
	switch s.Op {
	case api.SSet:
		s.X = m.exprs(m.count(2), 3)
	case api.SPrint:
		s.X = m.exprs(m.r.Intn(3), 3)
	case api.SDeclare:
		n := 1 + m.r.Intn(2)
		s.S, s.P, s.X = []string{"LOCAL", "PRIVATE", "PUBLIC", "STATIC"}[m.r.Intn(4)], m.names(n), m.exprs(m.count(n), 2)
	case api.SIf:
		n := 1 + m.r.Intn(2)
		s.X, s.B = m.exprs(n, 2), m.blocks(m.count(n+m.r.Intn(2)), depth-1)
	case api.SWhile:
		s.X, s.B = m.exprs(m.count(1), 2), m.blocks(m.count(1), depth-1)
	case api.SFor:
		s.S, s.X, s.B = m.name(), m.exprs(m.count(3), 2), m.blocks(m.count(1), depth-1)
	case api.SReturn, api.SBreak:
		s.X = m.exprs(m.count(m.r.Intn(2)), 3)
	case api.SDo:
		s.S, s.X = m.name(), m.exprs(m.r.Intn(3), 2)
	case api.SEval:
		s.X = []api.Expr{{Op: api.XCall, S: m.name(), L: m.exprs(m.r.Intn(3), 2)}}
	case api.SGuard:
		n := 1 + m.r.Intn(2)
		s.B = m.blocks(n, depth-1)
		if m.count(n) > 1 {
			s.S = []string{"", m.name()}[m.r.Intn(2)]
		}
	case api.SCmd:
		m.command(&s)
	}
	switch m.r.Intn(m.wrong * 6) {
	case 0:
		s.S = m.name()
	case 1:
		s.T = []string{"TOP", "ON", "UNIQUE"}[m.r.Intn(3)]
	case 2:
		s.P = m.names(1)
	case 3:
		s.X = m.exprs(m.r.Intn(3), 1)
	case 4:
		s.C = m.scope()
	case 5:
		s.B = m.blocks(1, 0)
	}
	return s
}

func (m *maker) scope() api.Scope {
	c := api.Scope{Kind: m.r.Intn(5)}
	if m.count(c.Kind)%2 == 0 && c.Kind > 0 {
		c.N = m.exprs(1, 2)
	}
	c.For, c.While = m.exprs(m.count(m.r.Intn(2)), 2), m.exprs(m.count(m.r.Intn(2)), 2)
	return c
}

func (m *maker) command(s *api.Stmt) {
	l := []string{"SELECT", "USE", "GO", "SKIP", "SEEK", "LOCATE", "CONTINUE", "REPLACE", "DELETE", "RECALL", "APPEND", "PACK", "ZAP", "COUNT", "SUM", "INDEX", "ORDER", "FILTER", "RELATION", "EXACT", "DELETED"}
	s.S = l[m.r.Intn(len(l))]
	switch s.S {
	case "SELECT":
		s.P = m.names(m.count(1))
	case "USE":
		s.P = m.names(m.r.Intn(3))
	case "GO":
		if m.r.Intn(2) == 0 {
			s.T = []string{"TOP", "BOTTOM"}[m.r.Intn(2)]
		} else {
			s.X = m.exprs(1, 1)
		}
	case "SKIP", "FILTER":
		s.X = m.exprs(m.r.Intn(2), 2)
	case "SEEK":
		s.X = m.exprs(m.count(1), 2)
	case "REPLACE":
		n := 1 + m.r.Intn(2)
		s.P, s.X, s.C = m.names(n), m.exprs(m.count(n), 2), m.scope()
	case "LOCATE", "DELETE", "RECALL":
		s.C = m.scope()
	case "COUNT":
		s.P, s.C = m.names(m.count(1)), m.scope()
	case "SUM":
		s.P, s.X, s.C = m.names(m.count(1)), m.exprs(m.count(1), 2), m.scope()
	case "INDEX":
		s.P, s.X, s.T = m.names(m.count(1)), m.exprs(m.count(1+m.r.Intn(2)), 2), []string{"", "UNIQUE", "CANDIDATE"}[m.r.Intn(3)]
		if m.r.Intn(2) == 0 {
			s.P = append(s.P, "DESCENDING")
		}
	case "ORDER":
		s.P = m.names(m.r.Intn(2))
	case "RELATION":
		n := m.r.Intn(2)
		s.P, s.X = m.names(m.count(n)), m.exprs(n, 2)
	case "EXACT", "DELETED":
		s.T = []string{"ON", "OFF"}[m.r.Intn(2)]
	}
}

// written is the text of what may be no program; false: the writer finds no way.
func written(p []api.Proc) (s string, ok bool) {
	defer func() {
		if recover() != nil {
			ok = false
		}
	}()
	var w writer
	for i, proc := range p {
		if i > 0 {
			w.line(0, heading(proc))
		}
		w.block(0, proc.Body)
	}
	return w.out.String(), true
}

// What Validate takes is read as it was; what it does not take is not.
func TestValidateIsParseOfText(t *testing.T) {
	right, bad := 0, 0
	for i := range 30000 {
		m := &maker{r: rand.New(rand.NewSource(int64(i))), wrong: 4 + i%60}
		p := []api.Proc{{Name: "MAIN", Body: m.stmts(2)}}
		if m.r.Intn(4) == 0 {
			p = append(p, api.Proc{Name: m.name(), Fn: m.r.Intn(2) == 0, P: m.names(m.r.Intn(3)), Body: m.stmts(1)})
		}
		if measured := measure(p); measured.isOver() {
			continue
		}
		s, ok := written(p)
		if len(s) > api.MaxSource || strings.Count(s, "\n") > 600 {
			continue
		}
		back, _, e := Parse(s)
		if e == api.ErrLarge {
			continue
		}
		holds := ok && e == api.OK && Same(p, back)
		if holds != (Validate(p) == api.OK) {
			t.Fatalf("seed %d: Validate %d, Parse %d\n%s\n%#v", i, Validate(p), e, s, p)
		}
		if !holds {
			bad++
			continue
		}
		right++
		if again, _ := Text(back); again != s {
			t.Fatalf("Text of Parse of Text\n%s\n%s", s, again)
		}
	}
	if right < 2500 || bad < 2500 {
		t.Error("too few of one kind", right, bad)
	}
}

// Any row of tokens is read as a program that Validate takes, or not at all.
func TestParseOfAnyTokens(t *testing.T) {
	parts := append(Words(), "a", "b", "=", ":=", "(", ")", "[", "]", "1", "'x'", ",", "->", "&", ".", "@", "{", "|", "}", "\n", "\n", "\n", "?", "+", "-", ".not.", "if x\n", "endif\n", "do case\n", "f(")
	read := 0
	for i := range 60000 {
		r := rand.New(rand.NewSource(int64(i)))
		s := ""
		for range 1 + r.Intn(8) {
			s += " " + parts[r.Intn(len(parts))]
		}
		p, n, e := Parse(s)
		if e != api.OK {
			continue
		}
		read++
		s2, e := Text(p)
		back, _, e2 := Parse(s2)
		if e != api.OK || e2 != api.OK || !Same(p, back) || n == 0 && len(p[0].Body) > 0 {
			t.Fatalf("%q: %q %d %d", s, s2, e, e2)
		}
	}
	if read < 150 {
		t.Error(read)
	}
}
