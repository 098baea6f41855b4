package sql

import (
	"iter"
	"slices"
	"strconv"

	"cabinetry/api"
	"cabinetry/bits"
	"cabinetry/expr"
	"cabinetry/fast"
	"cabinetry/tree"
)

const mostCombinations = 20000

// combinations goes through the combinations of one element of each list, the last list's elements changing first.
func combinations[T any](lists [][]T) iter.Seq[[]T] {
	return func(yield func([]T) bool) {
		var from func(prefix []T) bool
		from = func(prefix []T) bool {
			if len(prefix) == len(lists) {
				return yield(slices.Clone(prefix))
			}
			for _, x := range lists[len(prefix)] {
				if !from(append(prefix[:len(prefix):len(prefix)], x)) {
					return false
				}
			}
			return true
		}
		from(nil)
	}
}

// live are the records of a table that are not gone.
func live(t api.Table) []int {
	var out []int
	for i, r := range t.Recs {
		if !r.Gone {
			out = append(out, i+1)
		}
	}
	return out
}

// picker is a select that is worked on.
type picker struct {
	selection
	binder
	in    *input
	at    []int // the tables' numbers
	asked int   // how often WHERE was evaluated
	names []string
}

// newPicker finds the tables of a select, which are there.
func newPicker(in *input, s selection) *picker {
	p := &picker{selection: s, in: in}
	for _, f := range s.from {
		i, _ := in.find(f.table)
		p.at = append(p.at, i)
		p.aliases = append(p.aliases, f.alias)
		p.tables = append(p.tables, in.tables[i])
	}
	return p
}

// hasTooMany tells whether there are too many combinations.
func (p *picker) hasTooMany() bool {
	n := 1
	for _, t := range p.tables {
		n *= len(live(t))
		if n > mostCombinations {
			// An empty table behind makes them none.
			return !slices.ContainsFunc(p.tables, func(t api.Table) bool { return len(live(t)) == 0 })
		}
	}
	return false
}

// prepare finds what names stand for: ErrTwice, ErrRule and ErrNone from the left, ErrFit.
func (p *picker) prepare() api.Errno {
	seen := map[string]bool{}
	for _, a := range p.aliases {
		seen[a] = true
	}
	if len(seen) < len(p.aliases) {
		return api.ErrTwice
	}
	p.where = p.bindAll(p.where)
	p.group = p.bindAll(p.group)
	if p.star {
		p.everything()
	} else {
		p.bindItems()
	}
	for _, x := range p.having {
		p.check(x, p.names, nil)
	}
	if p.err != api.OK {
		return p.err
	}
	for _, t := range p.tables {
		if t.Page != p.tables[0].Page {
			return api.ErrFit
		}
	}
	return api.OK
}

// check tells whether all names in HAVING are those of columns; one behind an alias is none: ErrNone.
func (b *binder) check(x api.Expr, columns, params []string) {
	switch x.Op {
	case api.XName:
		if !slices.Contains(columns, x.S) && !slices.Contains(params, x.S) {
			b.fail(api.ErrNone)
		}
	case api.XAlias:
		if x.L[0].Op == api.XName {
			b.fail(api.ErrNone)
		}
		return // no name; it dies when it is evaluated
	case api.XBlock:
		params = slices.Concat(params, x.P)
	}
	for _, part := range x.L {
		b.check(part, columns, params)
	}
}

// everything makes the items of *.
func (p *picker) everything() {
	p.items = nil
	for i, t := range p.tables {
		for k, f := range t.Fields {
			p.items = append(p.items, item{x: p.named(column{i, k})})
			p.names = append(p.names, f.Name)
		}
	}
}

func (p *picker) bindItems() {
	p.items = slices.Clone(p.items)
	for i := range p.items {
		it := &p.items[i]
		name := "EXP" + strconv.Itoa(i+1)
		if c, e, is := p.field(it.x); is && e == api.OK && it.kind == plainItem {
			name = p.tables[c.table].Fields[c.field].Name
		}
		if it.as != "" {
			name = it.as
		}
		p.names = append(p.names, name)
		if it.kind != countAll {
			it.x = p.bind(it.x, nil)
		}
	}
}

// parts are the operands of the .AND.s of a WHERE, as they stood in the query.
func parts(where []api.Expr) []api.Expr {
	if len(where) == 0 {
		return nil
	}
	l, _ := expr.Parts(where[0])
	return l
}

// records returns for each table the records that may be in question, as the tags tell, and for a single table those of which they are sure.
func (p *picker) records(where []api.Expr) ([][]int, []int) {
	var lists [][]int
	for _, t := range p.tables {
		lists = append(lists, live(t))
	}
	if p.in.bags == nil {
		return lists, nil
	}
	for i := range p.tables {
		for _, part := range parts(where) {
			if known, ok := p.plan(i, part); ok {
				lists[i] = common(lists[i], known.May)
			}
		}
	}
	if len(p.tables) == 1 && len(where) == 1 {
		if known, ok := p.plan(0, where[0]); ok {
			return lists, known.Sure
		}
	}
	return lists, nil
}

func common(a, b []int) []int {
	x, _ := bits.Known(a)
	y, _ := bits.Known(b)
	both, _ := bits.And(x, y)
	return both.Sure
}

// plan tells what the tags of a table know of a condition that is about this table alone.
func (p *picker) plan(i int, x api.Expr) (api.Bits, bool) {
	plain, ok := p.unaliased(i, x)
	_, recno, deleted, e := expr.Needs(plain)
	if !ok || e != api.OK || i > 0 && (recno || deleted) {
		return api.Bits{}, false
	}
	s, e := tree.ExprText(plain)
	if e != api.OK {
		return api.Bits{}, false
	}
	known, e := fast.Plan(p.in.bags[p.at[i]], s, true)
	return known, e == api.OK
}

// unaliased is an expression with the fields of a table by their names alone; false: it is about others too.
func (p *picker) unaliased(i int, x api.Expr) (api.Expr, bool) {
	if c, e, is := p.field(x); is {
		if e != api.OK || c.table != i {
			return x, false
		}
		return api.Expr{Op: api.XName, S: p.tables[i].Fields[c.field].Name}, true
	}
	if x.Op == api.XAlias || x.Op == api.XBlock {
		return x, false
	}
	l := x.L
	x.L = nil
	all := true
	for _, part := range l {
		made, ok := p.unaliased(i, part)
		x.L = append(x.L, made)
		all = all && ok
	}
	return x, all
}

// rows returns the combinations for which WHERE is true: ErrType.
func (p *picker) rows(unbound []api.Expr) ([]row, api.Errno) {
	lists, sure := p.records(unbound)
	var out []row
	for r := range combinations(lists) {
		if len(p.where) == 1 {
			if _, isSure := slices.BinarySearch(sure, r[0]); !isSure {
				p.asked++
				v, e := p.eval(p.where[0], r)
				if e != api.OK {
					return nil, e
				}
				if !isTrue(v) {
					continue
				}
			}
		}
		out = append(out, r)
	}
	return out, api.OK
}
