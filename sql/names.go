package sql

import (
	"slices"
	"strconv"

	"cabinetry/api"
	"cabinetry/bag"
	"cabinetry/expr"
	"cabinetry/table"
)

// input is the tables that there are.
type input struct {
	names  []string
	tables []api.Table
	bags   []*bag.Bag // none, or one for each table
}

// find returns the number of a table.
func (in *input) find(name string) (int, bool) {
	i := slices.Index(in.names, name)
	return i, i >= 0
}

// column is a field of one of the tables of a select.
type column struct {
	table, field int
}

// binder finds what names in expressions stand for, and gives each field that is meant a name of its own.
type binder struct {
	aliases []string
	tables  []api.Table
	columns []column
	err     api.Errno // the first one
}

// fresh is the name of the k-th field that is meant; no field has such a name.
func fresh(k int) string {
	return "_" + strconv.Itoa(k)
}

func (b *binder) fail(e api.Errno) {
	if b.err == api.OK {
		b.err = e
	}
}

// named is the node that stands for a field.
func (b *binder) named(c column) api.Expr {
	k := slices.Index(b.columns, c)
	if k < 0 {
		k = len(b.columns)
		b.columns = append(b.columns, c)
	}
	return api.Expr{Op: api.XName, S: fresh(k)}
}

// alone is the field for which a name alone stands: ErrRule, ErrNone.
func (b *binder) alone(name string) (column, api.Errno) {
	var found []column
	for i, t := range b.tables {
		if k, ok := table.Index(t.Fields, name); ok {
			found = append(found, column{i, k})
		}
	}
	switch len(found) {
	case 0:
		return column{}, api.ErrNone
	case 1:
		return found[0], api.OK
	}
	return column{}, api.ErrRule
}

// of is a field of the table of an alias: ErrNone.
func (b *binder) of(alias, name string) (column, api.Errno) {
	i := slices.Index(b.aliases, alias)
	if i < 0 {
		return column{}, api.ErrNone
	}
	k, ok := table.Index(b.tables[i].Fields, name)
	if !ok {
		return column{}, api.ErrNone
	}
	return column{i, k}, api.OK
}

// field is the field that a node is, if it is one.
func (b *binder) field(x api.Expr) (c column, e api.Errno, is bool) {
	switch {
	case x.Op == api.XName:
		c, e = b.alone(x.S)
		return c, e, true
	case x.Op == api.XAlias && x.L[0].Op == api.XName:
		c, e = b.of(x.S, x.L[0].S)
		return c, e, true
	}
	return column{}, api.OK, false
}

// bind returns an expression with the names of fields replaced.
func (b *binder) bind(x api.Expr, params []string) api.Expr {
	if x.Op == api.XName && slices.Contains(params, x.S) {
		return x
	}
	if c, e, is := b.field(x); is {
		if e != api.OK {
			b.fail(e)
			return x
		}
		return b.named(c)
	}
	switch x.Op {
	case api.XAlias: // no field; it dies when it is evaluated
		return x
	case api.XBlock:
		params = slices.Concat(params, x.P)
	}
	l := x.L
	x.L = nil
	for _, part := range l {
		x.L = append(x.L, b.bind(part, params))
	}
	return x
}

func (b *binder) bindAll(l []api.Expr) []api.Expr {
	var out []api.Expr
	for _, x := range l {
		out = append(out, b.bind(x, nil))
	}
	return out
}

// row is the records of a combination, from 1 on, one of each table.
type row []int

// eval evaluates a bound expression at a combination, or without any: ErrType.
func (b *binder) eval(x api.Expr, r row) (api.Value, api.Errno) {
	e := api.Env{Exact: true, Page: b.tables[0].Page}
	for k, c := range b.columns {
		e.Names = append(e.Names, fresh(k))
		v := api.Value{}
		if r != nil {
			v = b.tables[c.table].Recs[r[c.table]-1].V[c.field]
		}
		e.Vals = append(e.Vals, v)
	}
	if r != nil {
		e.Rec = r[0]
	}
	v, why, err := expr.Eval(x, e)
	if why != 0 || err != api.OK {
		return api.Value{}, api.ErrType
	}
	return v, api.OK
}

func isTrue(v api.Value) bool {
	return v == api.Value{Kind: api.Truth, N: 1}
}
