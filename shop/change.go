package shop

import (
	"slices"
	"strings"

	"cabinetry/api"
	"cabinetry/bag"
	"cabinetry/expr"
	"cabinetry/table"
	"cabinetry/tree"
)

// tablePage is the code page of the shop's tables.
const tablePage = 1

// fieldOf reads a field. Whether its name is one of fields is not asked here.
func fieldOf(s string) (api.Field, bool) {
	name, kind, ok := strings.Cut(s, ":")
	if !ok || name == "" || kind == "" {
		return api.Field{}, false
	}
	f := api.Field{Name: name}
	width, null := strings.CutSuffix(kind[1:], "?")
	f.Null = null
	switch kind[0] {
	case 'L':
		f.Kind, f.Width = api.Truth, 1
	case 'D':
		f.Kind, f.Width = api.Date, 8
	case 'M':
		f.Kind, f.Width = api.Memo, 8
	case 'N':
		f.Kind = api.Num
	case 'C':
		f.Kind = api.Text
	default:
		return api.Field{}, false
	}
	if f.Width > 0 {
		return f, width == ""
	}
	f.Width, ok = number(width)
	return f, ok
}

// fieldsOf reads fields.
func fieldsOf(s string) ([]api.Field, bool) {
	var out []api.Field
	for part := range strings.SplitSeq(s, ",") {
		f, ok := fieldOf(part)
		if !ok {
			return nil, false
		}
		out = append(out, f)
	}
	return out, true
}

// create makes a new table.
func create(c *content, w []string) api.Errno {
	if !isName(w[0]) {
		return api.ErrArg
	}
	fields, ok := fieldsOf(w[1])
	if !ok {
		return api.ErrSyntax
	}
	if _, ok := c.bags[w[0]]; ok {
		return api.ErrTwice
	}
	b, e := bag.New(api.Table{Page: tablePage, Fields: fields})
	if e != api.OK {
		return e
	}
	if len(c.bags) >= api.MaxAreas {
		return api.ErrLarge
	}
	c.bags[w[0]] = b
	return api.OK
}

// drop takes a table away.
func drop(c *content, w []string) api.Errno {
	if _, e := c.find(w[0]); e != api.OK {
		return e
	}
	delete(c.bags, w[0])
	return api.OK
}

// constants reads constants, and tells why the first one that dies does.
func constants(s string) ([]api.Value, int, api.Errno) {
	var out []api.Value
	died := 0
	for part := range strings.SplitSeq(s, ";") {
		x, _, e := tree.ParseExpr(part)
		if e != api.OK {
			return nil, 0, api.ErrSyntax
		}
		if ok, _ := expr.IsConst(x); !ok {
			return nil, 0, api.ErrSyntax
		}
		v, why, _ := expr.Eval(x, api.Env{Exact: true, Page: tablePage})
		if died == 0 {
			died = why
		}
		out = append(out, v)
	}
	return out, died, api.OK
}

// add puts a record behind the last one.
func add(b *bag.Bag, w []string) api.Errno {
	values, died, e := constants(w[0])
	if e != api.OK {
		return e
	}
	t := b.Table()
	if len(values) != len(t.Fields) {
		return api.ErrFit
	}
	if died != 0 {
		return api.ErrType
	}
	for i, f := range t.Fields {
		v, e := table.Fit(f, t.Page, values[i])
		if e != api.OK {
			return e
		}
		values[i] = v
	}
	_, e = b.Append(api.Record{V: values})
	return e
}

// environment is what an expression sees of a record.
func environment(t api.Table, k int, r api.Record) api.Env {
	e := api.Env{Vals: slices.Clone(r.V), Exact: true, Page: t.Page, Rec: k, Gone: r.Gone}
	for _, f := range t.Fields {
		e.Names = append(e.Names, f.Name)
	}
	return e
}

// set sets a field of a record.
func set(b *bag.Bag, w []string) api.Errno {
	k, ok := number(w[0])
	x, _, e := tree.ParseExpr(w[2])
	if !ok || e != api.OK {
		return api.ErrSyntax
	}
	r, e := b.Record(k)
	if e != api.OK {
		return e
	}
	t := b.Table()
	at, ok := table.Index(t.Fields, w[1])
	if !ok {
		return api.ErrNone
	}
	v, why, e := expr.Eval(x, environment(t, k, r))
	if why != 0 || e != api.OK {
		return api.ErrType
	}
	r.V[at], e = table.Fit(t.Fields[at], t.Page, v)
	if e != api.OK {
		return e
	}
	return b.Put(k, r)
}

// marking makes a change that sets marks.
func marking(gone bool) func(b *bag.Bag, w []string) api.Errno {
	return func(b *bag.Bag, w []string) api.Errno {
		k, ok := number(w[0])
		if !ok {
			return api.ErrSyntax
		}
		return b.Mark(k, gone)
	}
}

func pack(b *bag.Bag, w []string) api.Errno {
	_, e := b.Pack()
	return e
}

func zap(b *bag.Bag, w []string) api.Errno {
	b.Zap()
	return api.OK
}

// tagging makes a change that adds a tag.
func tagging(uniq int) func(b *bag.Bag, w []string) api.Errno {
	return func(b *bag.Bag, w []string) api.Errno {
		return b.Add(api.Tag{Name: w[0], Key: w[1], Uniq: uniq})
	}
}

func untag(b *bag.Bag, w []string) api.Errno {
	return b.Drop(w[0])
}

// undo makes the tables what they were before the last change that is kept.
func undo(c *content, w []string) api.Errno {
	last := len(c.before) - 1
	if last < 0 {
		return api.ErrState
	}
	c.bags = c.before[last]
	c.before = c.before[:last]
	c.undone++
	return api.OK
}
