package sql

import (
	"slices"

	"cabinetry/api"
	"cabinetry/table"
)

// changer is a change that is worked on.
type changer struct {
	*change
	binder
	t  api.Table
	at []int // of the fields
}

// prepare finds fields and what names stand for: ErrNone, ErrTwice, ErrFit.
func (c *changer) prepare() api.Errno {
	seen := map[string]bool{}
	for _, name := range c.fields {
		i, ok := table.Index(c.t.Fields, name)
		if !ok {
			return api.ErrNone
		}
		c.at = append(c.at, i)
		seen[name] = true
	}
	if c.word != "INSERT" {
		c.aliases, c.tables = []string{c.table}, []api.Table{c.t}
	}
	c.values = c.bindAll(c.values)
	c.where = c.bindAll(c.where)
	c.tables = []api.Table{c.t}
	switch {
	case c.err != api.OK:
		return c.err
	case len(seen) < len(c.fields):
		return api.ErrTwice
	case len(c.values) != len(c.fields):
		return api.ErrFit
	}
	return api.OK
}

// found returns the live records for which WHERE is true: ErrType.
func (c *changer) found() ([]int, api.Errno) {
	var out []int
	for _, k := range live(c.t) {
		take := true
		for _, x := range c.where {
			v, e := c.eval(x, row{k})
			if e != api.OK {
				return nil, e
			}
			take = isTrue(v)
		}
		if take {
			out = append(out, k)
		}
	}
	return out, api.OK
}

// evaluated returns the values for a record, or for none: ErrType.
func (c *changer) evaluated(r row) ([]api.Value, api.Errno) {
	var out []api.Value
	for _, x := range c.values {
		v, e := c.eval(x, r)
		if e != api.OK {
			return nil, e
		}
		out = append(out, v)
	}
	return out, api.OK
}

// with returns a record with values in the fields: the errors of table.Fit.
func (c *changer) with(r api.Record, l []api.Value) (api.Record, api.Errno) {
	r.V = slices.Clone(r.V)
	for i, v := range l {
		at := c.at[i]
		v, e := table.Fit(c.t.Fields[at], c.t.Page, v)
		if e != api.OK {
			return api.Record{}, e
		}
		r.V[at] = v
	}
	return r, api.OK
}

// do makes the change in the table and returns how many records it concerns.
func (c *changer) do() (int, api.Errno) {
	if e := c.prepare(); e != api.OK {
		return 0, e
	}
	if c.word == "INSERT" {
		return c.insert()
	}
	found, e := c.found()
	if e != api.OK {
		return 0, e
	}
	var all [][]api.Value
	for _, k := range found {
		l, e := c.evaluated(row{k})
		if e != api.OK {
			return 0, e
		}
		all = append(all, l)
	}
	next := slices.Clone(c.t.Recs)
	for i, k := range found {
		r, e := c.with(next[k-1], all[i])
		if e != api.OK {
			return 0, e
		}
		r.Gone = c.word == "DELETE"
		next[k-1] = r
	}
	c.t.Recs = next
	return len(found), api.OK
}

func (c *changer) insert() (int, api.Errno) {
	l, e := c.evaluated(nil)
	if e != api.OK {
		return 0, e
	}
	blank, _ := table.Blank(c.t.Fields)
	r, e := c.with(blank, l)
	if e != api.OK {
		return 0, e
	}
	if len(c.t.Recs) >= api.MaxRecs {
		return 0, api.ErrLarge
	}
	c.t.Recs = append(slices.Clone(c.t.Recs), r)
	return 1, api.OK
}
