package sql

import (
	"slices"
	"strconv"

	"cabinetry/api"
	"cabinetry/lex"
	"cabinetry/tree"
)

// The kinds of items.
const (
	plainItem = ""
	countAll  = "*"
	countItem = "COUNT"
	sumItem   = "SUM"
	minItem   = "MIN"
	maxItem   = "MAX"
)

// source is a table with its alias.
type source struct {
	table, alias string
}

// item is a column that is asked for: an expression, or an aggregate of one.
type item struct {
	kind string
	x    api.Expr
	as   string
}

// selection is a select.
type selection struct {
	distinct, star bool
	items          []item
	from           []source
	where, having  []api.Expr // none or one
	group          []api.Expr
}

// order is what a result is sorted by: the number of a column, or its name.
type order struct {
	number int
	name   string
	down   bool
}

// query is selects with what stands between them.
type query struct {
	selects []selection
	all     []bool // for each select but the first
	orders  []order
}

// change is a change of a table; its word tells which.
type change struct {
	word   string
	table  string
	fields []string
	values []api.Expr
	where  []api.Expr
}

// statement is a query or a change.
type statement struct {
	query  *query
	change *change
}

// wrong is the number of the token that does not fit; the parser is left by it.
type wrong int

// parser reads tokens from the left.
type parser struct {
	s     string
	l     []api.Token
	at    int
	large bool // an expression is too large
}

func words() []string {
	return []string{
		"UNION", "ALL", "ORDER", "BY", "DESC", "SELECT", "DISTINCT", "FROM", "WHERE", "GROUP", "HAVING", "AS",
		"COUNT", "SUM", "MIN", "MAX", "INSERT", "INTO", "VALUES", "UPDATE", "SET", "DELETE",
	}
}

// parse reads a statement; with ErrSyntax it returns the place or the number that Check tells.
func parse(s string) (st statement, n int, e api.Errno) {
	l, n, e := lex.Lex(s)
	if e != api.OK {
		return statement{}, n, e
	}
	p := &parser{s: s, l: l}
	defer func() {
		if r := recover(); r != nil {
			w, ok := r.(wrong)
			if !ok {
				panic(r)
			}
			st, n, e = statement{}, int(w), api.ErrSyntax
		}
	}()
	st = p.statement()
	if p.large {
		return statement{}, 0, api.ErrLarge
	}
	return st, len(l), api.OK
}

func (p *parser) fail() {
	panic(wrong(p.at))
}

func (p *parser) isAt(n, kind int, text string) bool {
	i := p.at + n
	return i < len(p.l) && p.l[i].Kind == kind && p.l[i].Text == text
}

func (p *parser) takeWord(word string) bool {
	if !p.isAt(0, api.KWord, word) {
		return false
	}
	p.at++
	return true
}

func (p *parser) needWord(list ...string) {
	for _, word := range list {
		if !p.takeWord(word) {
			p.fail()
		}
	}
}

func (p *parser) takeSign(sign string) bool {
	if !p.isAt(0, api.KSign, sign) {
		return false
	}
	p.at++
	return true
}

func (p *parser) needSign(sign string) {
	if !p.takeSign(sign) {
		p.fail()
	}
}

// isName tells whether a name of a table, an alias or a column stands here.
func (p *parser) isName() bool {
	if p.at >= len(p.l) || p.l[p.at].Kind != api.KWord {
		return false
	}
	s := p.l[p.at].Text
	return lex.IsName(s) && !slices.Contains(words(), s)
}

func (p *parser) name() string {
	if !p.isName() {
		p.fail()
	}
	p.at++
	return p.l[p.at-1].Text
}

func (p *parser) statement() statement {
	var st statement
	switch {
	case p.isAt(0, api.KWord, "SELECT"):
		st.query = p.query()
	case p.takeWord("INSERT"):
		st.change = p.insert()
	case p.takeWord("UPDATE"):
		st.change = p.update()
	case p.takeWord("DELETE"):
		p.needWord("FROM")
		st.change = &change{word: "DELETE", table: p.name()}
		st.change.where = p.optional("WHERE")
	default:
		p.fail()
	}
	if !p.isAt(0, api.KEnd, "") || p.at+1 < len(p.l) {
		if p.isAt(0, api.KEnd, "") {
			p.at++
		}
		p.fail()
	}
	return st
}

func (p *parser) query() *query {
	q := &query{selects: []selection{p.selection()}}
	for p.takeWord("UNION") {
		q.all = append(q.all, p.takeWord("ALL"))
		q.selects = append(q.selects, p.selection())
	}
	if !p.takeWord("ORDER") {
		return q
	}
	p.needWord("BY")
	for {
		q.orders = append(q.orders, p.order())
		if !p.takeSign(",") {
			return q
		}
	}
}

func (p *parser) order() order {
	var o order
	if p.at < len(p.l) && p.l[p.at].Kind == api.KNum {
		o.number, _ = strconv.Atoi(p.l[p.at].Text)
		p.at++
	} else {
		o.name = p.name()
	}
	o.down = p.takeWord("DESC")
	return o
}

func (p *parser) selection() selection {
	var s selection
	p.needWord("SELECT")
	s.distinct = p.takeWord("DISTINCT")
	s.star = p.takeSign("*")
	if !s.star {
		s.items = []item{p.item()}
		for p.takeSign(",") {
			s.items = append(s.items, p.item())
		}
	}
	p.needWord("FROM")
	s.from = []source{p.source()}
	for p.takeSign(",") {
		s.from = append(s.from, p.source())
	}
	s.where = p.optional("WHERE")
	if p.takeWord("GROUP") {
		p.needWord("BY")
		s.group = p.list()
	}
	s.having = p.optional("HAVING")
	return s
}

func (p *parser) source() source {
	s := source{table: p.name()}
	s.alias = s.table
	if p.isName() {
		s.alias = p.name()
	}
	return s
}

func (p *parser) item() item {
	var i item
	if p.isAt(0, api.KWord, "COUNT") && p.isAt(1, api.KSign, "(") && p.isAt(2, api.KSign, "*") {
		p.at += 3
		p.needSign(")")
		i.kind = countAll
	} else {
		begin := p.at
		i.x = p.expr()
		// In parentheses it is a call like others.
		isCall := p.l[begin].Kind == api.KWord && i.x.Op == api.XCall && len(i.x.L) == 1
		if isCall && slices.Contains([]string{countItem, sumItem, minItem, maxItem}, i.x.S) {
			i.kind, i.x = i.x.S, i.x.L[0]
		}
	}
	if p.takeWord("AS") {
		i.as = p.name()
	}
	return i
}

func (p *parser) list() []api.Expr {
	l := []api.Expr{p.expr()}
	for p.takeSign(",") {
		l = append(l, p.expr())
	}
	return l
}

// optional reads an expression behind a word.
func (p *parser) optional(word string) []api.Expr {
	if !p.takeWord(word) {
		return nil
	}
	return []api.Expr{p.expr()}
}

func (p *parser) insert() *change {
	p.needWord("INTO")
	c := &change{word: "INSERT", table: p.name()}
	p.needSign("(")
	c.fields = []string{p.name()}
	for p.takeSign(",") {
		c.fields = append(c.fields, p.name())
	}
	p.needSign(")")
	p.needWord("VALUES")
	p.needSign("(")
	c.values = p.list()
	p.needSign(")")
	return c
}

func (p *parser) update() *change {
	c := &change{word: "UPDATE", table: p.name()}
	p.needWord("SET")
	for {
		c.fields = append(c.fields, p.name())
		p.needSign("=")
		c.values = append(c.values, p.expr())
		if !p.takeSign(",") {
			break
		}
	}
	c.where = p.optional("WHERE")
	return c
}

// expr reads an expression as chapter 6 does: as far as it goes.
func (p *parser) expr() api.Expr {
	end := p.wordBehind()
	if end == p.at || p.isAt(0, api.KSign, "*") { // behind a line's begin this would be a comment
		p.fail()
	}
	x, n, e := p.read(end)
	if e == api.ErrSyntax && p.at+n < end {
		// An expression never goes on with what does not fit; it may end before.
		end = p.at + n
		x, n, e = p.read(end)
	}
	switch e {
	case api.ErrSyntax:
		p.at += n
		p.fail()
	case api.ErrLarge:
		p.large = true
	}
	p.at = end
	return x
}

// wordBehind is the place of the first word that is no name, or of the line's end.
func (p *parser) wordBehind() int {
	for i := p.at; i < len(p.l); i++ {
		t := p.l[i]
		isCall := i+1 < len(p.l) && p.l[i+1].Kind == api.KSign && p.l[i+1].Text == "("
		if t.Kind == api.KEnd || t.Kind == api.KWord && !isCall && slices.Contains(words(), t.Text) {
			return i
		}
	}
	return len(p.l)
}

// read reads the tokens up to an end as one expression.
func (p *parser) read(end int) (api.Expr, int, api.Errno) {
	if end == p.at {
		return api.Expr{}, 0, api.ErrSyntax
	}
	to := len(p.s)
	if end < len(p.l) {
		to = p.l[end].At
	}
	return tree.ParseExpr(p.s[p.l[p.at].At:to])
}
