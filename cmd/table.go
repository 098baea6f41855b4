package cmd

import (
	"slices"

	"cabinetry/api"
	"cabinetry/area"
	"cabinetry/table"
	"cabinetry/val"
)

// AppendFrom appends the records of a table.
func AppendFrom(d *area.Desk, alias string, t api.Table) (int, api.Errno) {
	if e := hasArea(d, alias); e != api.OK {
		return 0, e
	}
	if e := table.Validate(t); e != api.OK {
		return 0, e
	}
	fields := tableOf(d, alias).Fields
	var names []string
	for _, f := range fields {
		names = append(names, f.Name)
	}
	t, _ = table.Modify(t, fields)
	count := 0
	e := undoing(d, func() api.Errno {
		for _, r := range t.Recs {
			if r.Gone {
				continue
			}
			if _, e := d.Append(alias); e != api.OK {
				return e
			}
			if e := d.Set(alias, names, r.V); e != api.OK {
				return e
			}
			count++
		}
		return api.OK
	})
	if e != api.OK {
		return 0, e
	}
	return count, api.OK
}

// Update sets fields of the records that are found by the keys of another work area.
func Update(d *area.Desk, alias, from string, key api.Expr, names []string, l []api.Expr) (int, api.Errno) {
	if e := hasArea(d, alias, from); e != api.OK {
		return 0, e
	}
	if e := validExprs(slices.Concat([]api.Expr{key}, l)); e != api.OK {
		return 0, e
	}
	if e := wrongNames(d, alias, names, len(l)); e != api.OK {
		return 0, e
	}
	if _, _, relations, _ := d.About(from); relations > 0 {
		return 0, api.ErrRule
	}
	if _, order, _, _ := d.About(alias); order == "" {
		return 0, api.ErrState
	}
	if alias == from {
		return 0, api.ErrRule
	}
	count := 0
	e := undoing(d, func() api.Errno {
		row, _ := d.Row(from)
		for _, k := range row {
			d.Go(from, k)
			v, e := values(d, from, []api.Expr{key})
			if e != api.OK {
				return e
			}
			found, e := d.Seek(alias, v[0], false)
			if e != api.OK {
				return e
			}
			if !found {
				continue
			}
			if e := replace(d, alias, names, l); e != api.OK {
				return e
			}
			count++
		}
		d.Skip(alias, beyond)
		d.Skip(from, beyond)
		return api.OK
	})
	if e != api.OK {
		return 0, e
	}
	return count, api.OK
}

// selected returns some fields of records.
func selected(t api.Table, at []int, taken []api.Record) api.Table {
	out := api.Table{Page: t.Page}
	for _, i := range at {
		out.Fields = append(out.Fields, t.Fields[i])
	}
	for _, r := range taken {
		made := api.Record{Gone: r.Gone}
		for _, i := range at {
			made.V = append(made.V, r.V[i])
		}
		out.Recs = append(out.Recs, made)
	}
	return out
}

// take visits a scope and returns its records as they are.
func take(d *area.Desk, alias string, s api.Scope) ([]api.Record, api.Errno) {
	t := tableOf(d, alias)
	var out []api.Record
	_, e := visit(d, alias, usually(s, all()), func(k int) api.Errno {
		out = append(out, t.Recs[k-1])
		return api.OK
	})
	return out, e
}

func everyField(t api.Table) []int {
	var out []int
	for i := range t.Fields {
		out = append(out, i)
	}
	return out
}

// Copy returns a table of fields of the records of a scope.
func Copy(d *area.Desk, alias string, names []string, s api.Scope) (api.Table, api.Errno) {
	if e := wrong(d, alias, s, nil); e != api.OK {
		return api.Table{}, e
	}
	t := tableOf(d, alias)
	at, e := places(t, names)
	if e != api.OK {
		return api.Table{}, e
	}
	if len(names) == 0 {
		at = everyField(t)
	}
	taken, e := take(d, alias, s)
	if e != api.OK {
		return api.Table{}, e
	}
	return selected(t, at, taken), api.OK
}

// compare orders two values of a field, Nil first.
func compare(a, b api.Value) int {
	if a.Kind == api.Nil || b.Kind == api.Nil {
		return min(a.Kind, 1) - min(b.Kind, 1)
	}
	n, _ := val.Compare(a, b)
	return n
}

// Sort returns a table of the records of a scope, sorted by fields.
func Sort(d *area.Desk, alias string, names []string, down []bool, s api.Scope) (api.Table, api.Errno) {
	if e := wrong(d, alias, s, nil); e != api.OK {
		return api.Table{}, e
	}
	if len(names) != len(down) {
		return api.Table{}, api.ErrFit
	}
	t := tableOf(d, alias)
	at, e := places(t, names)
	if e != api.OK {
		return api.Table{}, e
	}
	if len(names) == 0 {
		return api.Table{}, api.ErrArg
	}
	taken, e := take(d, alias, s)
	if e != api.OK {
		return api.Table{}, e
	}
	slices.SortStableFunc(taken, func(r, q api.Record) int {
		for i, field := range at {
			n := compare(r.V[field], q.V[field])
			if down[i] {
				n = -n
			}
			if n != 0 {
				return n
			}
		}
		return 0
	})
	return selected(t, everyField(t), taken), api.OK
}

// Total returns a table with a record for each row of records of a scope with equal keys.
func Total(d *area.Desk, alias string, key api.Expr, names []string, s api.Scope) (api.Table, api.Errno) {
	if e := wrong(d, alias, s, []api.Expr{key}); e != api.OK {
		return api.Table{}, e
	}
	t := tableOf(d, alias)
	at, e := places(t, names)
	if e != api.OK {
		return api.Table{}, e
	}
	for _, i := range at {
		if t.Fields[i].Kind != api.Num {
			return api.Table{}, api.ErrType
		}
	}
	var taken []api.Record
	// The sums are known when all records have been visited, and may still be refused then.
	e = undoing(d, func() api.Errno {
		l, e := rowsOf(d, alias, key, at, s)
		if e != api.OK {
			return e
		}
		taken = l
		return fitting(t, l, at)
	})
	if e != api.OK {
		return api.Table{}, e
	}
	return selected(t, everyField(t), taken), api.OK
}

// rowsOf visits a scope and returns a record for each row of records with equal keys, in whose fields are the sums.
func rowsOf(d *area.Desk, alias string, key api.Expr, at []int, s api.Scope) ([]api.Record, api.Errno) {
	t := tableOf(d, alias)
	var last api.Value
	var out []api.Record
	_, e := visit(d, alias, usually(s, all()), func(k int) api.Errno {
		v, e := values(d, alias, []api.Expr{key})
		if e != api.OK {
			return e
		}
		r := t.Recs[k-1]
		r.Gone = false
		if len(out) == 0 || v[0] != last {
			out = append(out, r)
		} else {
			addFields(out[len(out)-1], r, at)
		}
		last = v[0]
		return api.OK
	})
	return out, e
}

// fitting returns ErrFit if a sum is too wide for its field.
func fitting(t api.Table, l []api.Record, at []int) api.Errno {
	for _, r := range l {
		for _, i := range at {
			if _, e := table.Fit(t.Fields[i], t.Page, r.V[i]); e != api.OK {
				return api.ErrFit
			}
		}
	}
	return api.OK
}

// addFields adds fields of a record to those of another one.
func addFields(to, r api.Record, at []int) {
	for _, i := range at {
		if r.V[i].Kind != api.Nil {
			to.V[i] = api.Value{Kind: api.Num, N: to.V[i].N + r.V[i].N}
		}
	}
}

// side is a field of one of two work areas.
type side struct {
	second bool
	at     int
}

// Join returns a table of the pairs of records of two work areas for which a condition is true.
func Join(d *area.Desk, a, b string, cond api.Expr, fields [][2]string, names []string) (api.Table, api.Errno) {
	if e := hasArea(d, a, b); e != api.OK {
		return api.Table{}, e
	}
	if e := validExprs([]api.Expr{cond}); e != api.OK {
		return api.Table{}, e
	}
	if len(fields) != len(names) {
		return api.Table{}, api.ErrFit
	}
	first, second := tableOf(d, a), tableOf(d, b)
	sides, e := sidesOf(fields, a, b, first, second)
	if e != api.OK {
		return api.Table{}, e
	}
	out := api.Table{Page: first.Page}
	for i, s := range sides {
		f := s.of(first.Fields, second.Fields)
		f.Name = names[i]
		out.Fields = append(out.Fields, f)
	}
	if e := table.ValidateFields(out.Fields); e != api.OK {
		return api.Table{}, e
	}
	if first.Page != second.Page {
		return api.Table{}, api.ErrFit
	}
	if a == b {
		return api.Table{}, api.ErrRule
	}
	e = undoing(d, func() api.Errno {
		return pairs(d, a, b, cond, func(k, l int) api.Errno {
			if len(out.Recs) == api.MaxRecs {
				return api.ErrLarge
			}
			var made api.Record
			for _, s := range sides {
				made.V = append(made.V, s.value(first.Recs[k-1], second.Recs[l-1]))
			}
			out.Recs = append(out.Recs, made)
			return api.OK
		})
	})
	if e != api.OK {
		return api.Table{}, e
	}
	return out, api.OK
}

func (s side) of(first, second []api.Field) api.Field {
	if s.second {
		return second[s.at]
	}
	return first[s.at]
}

func (s side) value(first, second api.Record) api.Value {
	if s.second {
		return second.V[s.at]
	}
	return first.V[s.at]
}

// sidesOf finds fields of two work areas: ErrArg, then ErrNone.
func sidesOf(fields [][2]string, a, b string, first, second api.Table) ([]side, api.Errno) {
	for _, f := range fields {
		if f[0] != a && f[0] != b {
			return nil, api.ErrArg
		}
	}
	var out []side
	for _, f := range fields {
		s := side{second: f[0] != a}
		l := first.Fields
		if s.second {
			l = second.Fields
		}
		at, ok := table.Index(l, f[1])
		if !ok {
			return nil, api.ErrNone
		}
		s.at = at
		out = append(out, s)
	}
	return out, api.OK
}

// pairs goes through the row of a work area, and at each of its records through that of another one, and tells the pairs for which a condition is true.
func pairs(d *area.Desk, a, b string, cond api.Expr, tell func(k, l int) api.Errno) api.Errno {
	row, _ := d.Row(a)
	for _, k := range row {
		d.Go(a, k)
		other, _ := d.Row(b)
		for _, l := range other {
			d.Go(b, l)
			ok, e := holds(d, a, []api.Expr{cond})
			if e != api.OK {
				return e
			}
			if !ok {
				continue
			}
			if e := tell(k, l); e != api.OK {
				return e
			}
		}
	}
	d.Skip(a, beyond)
	d.Skip(b, beyond)
	return api.OK
}
