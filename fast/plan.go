package fast

import (
	"cabinetry/api"
	"cabinetry/bag"
	"cabinetry/expr"
	"cabinetry/key"
	"cabinetry/tree"
)

// outcomes are what may come of an expression at a record.
type outcomes uint8

const (
	isTrue outcomes = 1 << iota
	isFalse
	isNil
	dies     // or is no truth
	anything = isTrue | isFalse | isNil | dies
)

// servers are, by the text of their key, the tags that can serve a comparison.
type servers map[string][]api.Tag

func serversOf(b *bag.Bag) servers {
	m := servers{}
	for _, g := range b.Tags() {
		if g.For != "" || g.Uniq != 0 {
			continue
		}
		x, _, _ := tree.ParseExpr(g.Key)
		s, e := tree.ExprText(x)
		if e == api.OK {
			m[s] = append(m[s], g)
		}
	}
	return m
}

// served is a comparison of the key of some tags with a constant.
type served struct {
	op       string
	key      api.Expr
	constant api.Expr
	turned   bool // the constant stands on the left
	tags     []api.Tag
}

// find returns the comparison that an expression is, if a tag serves it.
func (m servers) find(x api.Expr) (served, bool) {
	if x.Op != api.XBin || !isOperator(x.S) {
		return served{}, false
	}
	for i, side := range x.L {
		constant := x.L[1-i]
		isConst, _ := expr.IsConst(constant)
		s, e := tree.ExprText(side)
		if isConst && e == api.OK && len(m[s]) > 0 {
			return served{x.S, side, constant, i == 1, m[s]}, true
		}
	}
	return served{}, false
}

func isOperator(op string) bool {
	switch op {
	case "=", "==", "<", "<=", ">", ">=":
		return true
	}
	return false
}

// collect puts the names of the tags that serve a comparison outside of calls into a set.
func (m servers) collect(x api.Expr, names map[string]bool) {
	if s, ok := m.find(x); ok {
		for _, g := range s.tags {
			names[g.Name] = true
		}
	}
	if x.Op == api.XCall {
		return
	}
	for _, part := range x.L {
		m.collect(part, names)
	}
}

// planner finds out what tags tell of a condition.
type planner struct {
	servers
	bag   *bag.Bag
	page  int
	count int
	exact bool
}

func newPlanner(b *bag.Bag, exact bool) *planner {
	return &planner{servers: serversOf(b), bag: b, page: b.Table().Page, count: b.Len(), exact: exact}
}

// all is the same at each record.
func (p *planner) all(o outcomes) []outcomes {
	l := make([]outcomes, p.count)
	for i := range l {
		l[i] = o
	}
	return l
}

// plan tells what may come of an expression at each record.
func (p *planner) plan(x api.Expr) []outcomes {
	if isConst, _ := expr.IsConst(x); isConst {
		return p.all(p.ofConstant(x))
	}
	if x.Op == api.XUn && x.S == ".NOT." {
		return p.each(x.L[:1], func(l []outcomes) outcomes { return not(l[0]) })
	}
	if x.Op == api.XBin && x.S == ".AND." {
		return p.each(x.L, func(l []outcomes) outcomes { return and(l[0], l[1]) })
	}
	if x.Op == api.XBin && x.S == ".OR." {
		return p.each(x.L, func(l []outcomes) outcomes { return not(and(not(l[0]), not(l[1]))) })
	}
	if l := p.servers[x.S]; x.Op == api.XName && len(l) > 0 {
		return p.ofKey(l[0])
	}
	if s, ok := p.find(x); ok && (p.exact || !dependsOnExact(s.key)) {
		return p.compare(s)
	}
	return p.all(anything)
}

// each joins what may come of some expressions at each record.
func (p *planner) each(l []api.Expr, join func(l []outcomes) outcomes) []outcomes {
	var parts [][]outcomes
	for _, x := range l {
		parts = append(parts, p.plan(x))
	}
	out := make([]outcomes, p.count)
	row := make([]outcomes, len(l))
	for i := range out {
		for j := range parts {
			row[j] = parts[j][i]
		}
		out[i] = join(row)
	}
	return out
}

func not(a outcomes) outcomes {
	out := a & (isNil | dies)
	if a&isTrue != 0 {
		out |= isFalse
	}
	if a&isFalse != 0 {
		out |= isTrue
	}
	return out
}

func and(a, b outcomes) outcomes {
	out := a & (isFalse | dies)
	if a&isTrue != 0 {
		out |= b
	}
	if a&isNil != 0 {
		out |= b & (isFalse | dies)
		if b&(isTrue|isNil) != 0 {
			out |= isNil
		}
	}
	return out
}

// evaluate returns the value of a constant; false: it dies.
func (p *planner) evaluate(x api.Expr) (api.Value, bool) {
	v, why, e := expr.Eval(x, api.Env{Exact: p.exact, Page: p.page})
	return v, why == 0 && e == api.OK
}

func (p *planner) ofConstant(x api.Expr) outcomes {
	v, ok := p.evaluate(x)
	if !ok {
		return dies
	}
	return ofValue(v)
}

// ofValue is what a value is as a condition.
func ofValue(v api.Value) outcomes {
	switch v {
	case api.Value{}:
		return isNil
	case api.Value{Kind: api.Truth, N: 1}:
		return isTrue
	case api.Value{Kind: api.Truth}:
		return isFalse
	}
	return dies
}

// ofKey tells what the key of a tag is as a condition at each record.
func (p *planner) ofKey(g api.Tag) []outcomes {
	out := p.all(anything)
	keys, recs, _ := p.bag.Entries(g.Name)
	for i, k := range keys {
		if v, e := key.Decode(k, g.Down); e == api.OK {
			out[recs[i]-1] = ofValue(v)
		}
	}
	return out
}

// dependsOnExact tells whether the value of an expression may depend on how texts are compared: tags compare them exactly.
func dependsOnExact(x api.Expr) bool {
	if x.Op == api.XBin && (x.S == "=" || x.S == "<>") {
		return true
	}
	for _, part := range x.L {
		if dependsOnExact(part) {
			return true
		}
	}
	return false
}

// between returns the keys between which those of a tag are in question for a comparison with a value, and whether there are no others.
func (p *planner) between(s served, g api.Tag, v api.Value) (string, string, bool) {
	op := s.op
	if s.turned {
		op = mirrored(op)
	}
	if op == "=" && s.turned && v.Kind == api.Text && !p.exact {
		// The constant begins with the key, which is not greater then.
		lo, hi, _, _ := key.Range("<=", v, p.exact, p.page, g.Coll, g.Down)
		return lo, hi, false
	}
	lo, hi, sure, _ := key.Range(op, v, p.exact, p.page, g.Coll, g.Down)
	return lo, hi, sure
}

// mirrored is the operator with its sides exchanged.
func mirrored(op string) string {
	switch op {
	case "<":
		return ">"
	case "<=":
		return ">="
	case ">":
		return "<"
	case ">=":
		return "<="
	}
	return op
}

// compare tells what may come of a comparison that is served: each of its tags has the key of each record.
func (p *planner) compare(s served) []outcomes {
	v, ok := p.evaluate(s.constant)
	if !ok {
		return p.all(dies)
	}
	if v.Kind == api.Nil {
		return p.all(isNil)
	}
	out := p.all(anything)
	for _, g := range s.tags {
		p.narrow(out, s, g, v)
	}
	return out
}

// narrow leaves what a tag, too, tells of a comparison with a value: one may know what another one does not.
func (p *planner) narrow(out []outcomes, s served, g api.Tag, v api.Value) {
	lo, hi, sure := p.between(s, g, v)
	keys, recs, _ := p.bag.Entries(g.Name)
	for i, k := range keys {
		o := isFalse
		switch kind := kindOf(k, g.Down); {
		case kind == api.Nil:
			o = isNil
		case kind != v.Kind:
			o = dies
		case lo <= k && (hi == "" || k < hi):
			o = isTrue
			if !sure {
				o = isTrue | isFalse
			}
		}
		out[recs[i]-1] &= o
	}
}

// kindOf is the kind of the value of a key.
func kindOf(k string, down bool) int {
	if down {
		return 255 - int(k[0])
	}
	return int(k[0])
}

// questions is how many entries of a tag are in question for a comparison.
func (p *planner) questions(s served, g api.Tag) int {
	v, ok := p.evaluate(s.constant)
	if !ok || v.Kind == api.Nil {
		return 0
	}
	lo, hi, _ := p.between(s, g, v)
	n := 0
	keys, _, _ := p.bag.Entries(g.Name)
	for _, k := range keys {
		if lo <= k && (hi == "" || k < hi) {
			n++
		}
	}
	return n
}
