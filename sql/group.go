package sql

import (
	"slices"
	"strconv"
	"strings"

	"cabinetry/api"
	"cabinetry/expr"
	"cabinetry/val"
)

// keyOf is a text that is the same for the same values.
func keyOf(l []api.Value) string {
	var out strings.Builder
	for _, v := range l {
		out.WriteString(strconv.Itoa(v.Kind) + " " + strconv.Itoa(v.N) + " " + strconv.Itoa(len(v.S)) + " " + v.S)
	}
	return out.String()
}

// group is rows that make one row of the result.
type group []row

// first is the first row of a group; nil: there is none.
func (g group) first() row {
	if len(g) == 0 {
		return nil
	}
	return g[0]
}

// groups puts rows together: ErrType.
func (p *picker) groups(rows []row) ([]group, api.Errno) {
	isAggregate := func(i item) bool { return i.kind != plainItem }
	if len(p.group) == 0 {
		if slices.ContainsFunc(p.items, isAggregate) {
			return []group{rows}, api.OK
		}
		var out []group
		for _, r := range rows {
			out = append(out, group{r})
		}
		return out, api.OK
	}
	numbers := map[string]int{}
	var out []group
	for _, r := range rows {
		var l []api.Value
		for _, x := range p.group {
			v, e := p.eval(x, r)
			if e != api.OK {
				return nil, e
			}
			l = append(l, v)
		}
		k := keyOf(l)
		n, ok := numbers[k]
		if !ok {
			n = len(out)
			numbers[k] = n
			out = append(out, nil)
		}
		out[n] = append(out[n], r)
	}
	return out, api.OK
}

// column returns the value of an item for each group: ErrType, ErrLarge.
func (p *picker) column(it item, groups []group) ([]api.Value, api.Errno) {
	var out []api.Value
	if it.kind == countAll {
		for _, g := range groups {
			out = append(out, number(len(g)))
		}
		return out, api.OK
	}
	if it.kind == plainItem {
		for _, g := range groups {
			if g.first() == nil {
				out = append(out, api.Value{})
				continue
			}
			v, e := p.eval(it.x, g.first())
			if e != api.OK {
				return nil, e
			}
			out = append(out, v)
		}
		return out, api.OK
	}
	var all [][]api.Value
	for _, g := range groups {
		var l []api.Value
		for _, r := range g {
			v, e := p.eval(it.x, r)
			if e != api.OK {
				return nil, e
			}
			if v.Kind != api.Nil {
				l = append(l, v)
			}
		}
		all = append(all, l)
	}
	return aggregates(it.kind, all)
}

func number(n int) api.Value {
	return api.Value{Kind: api.Num, N: n}
}

// aggregates returns an aggregate of each list of values: ErrType, then ErrLarge.
func aggregates(kind string, all [][]api.Value) ([]api.Value, api.Errno) {
	for _, l := range all {
		isOther := func(v api.Value) bool { return v.Kind != l[0].Kind || kind == sumItem && v.Kind != api.Num }
		if kind != countItem && slices.ContainsFunc(l, isOther) {
			return nil, api.ErrType
		}
	}
	var out []api.Value
	for _, l := range all {
		v, e := aggregate(kind, l)
		if e != api.OK {
			return nil, e
		}
		out = append(out, v)
	}
	return out, api.OK
}

func aggregate(kind string, l []api.Value) (api.Value, api.Errno) {
	if kind == countItem {
		return number(len(l)), api.OK
	}
	if len(l) == 0 {
		return api.Value{}, api.OK
	}
	best := l[0]
	for _, v := range l[1:] {
		n, _ := val.Compare(v, best)
		switch {
		case kind == sumItem:
			best.N += v.N
			if best.N > api.MaxNum || best.N < -api.MaxNum {
				return api.Value{}, api.ErrLarge
			}
		case kind == minItem && n < 0 || kind == maxItem && n > 0:
			best = v
		}
	}
	return best, api.OK
}

// result returns the rows of a select: ErrType, ErrLarge.
func (p *picker) result(unbound []api.Expr) ([][]api.Value, api.Errno) {
	rows, e := p.rows(unbound)
	if e != api.OK {
		return nil, e
	}
	groups, e := p.groups(rows)
	if e != api.OK {
		return nil, e
	}
	out := make([][]api.Value, len(groups))
	for _, it := range p.items {
		l, e := p.column(it, groups)
		if e != api.OK {
			return nil, e
		}
		for i, v := range l {
			out[i] = append(out[i], v)
		}
	}
	out, e = p.stay(out, groups)
	if e != api.OK {
		return nil, e
	}
	if p.distinct {
		out = distinct(out)
	}
	return out, api.OK
}

// stay leaves those rows for which HAVING is true: ErrType.
func (p *picker) stay(rows [][]api.Value, groups []group) ([][]api.Value, api.Errno) {
	if len(p.having) == 0 {
		return rows, api.OK
	}
	var out [][]api.Value
	for i, r := range rows {
		e := api.Env{Exact: true, Page: p.tables[0].Page}
		for k, name := range p.names {
			if !slices.Contains(e.Names, name) {
				e.Names = append(e.Names, name)
				e.Vals = append(e.Vals, r[k])
			}
		}
		if first := groups[i].first(); first != nil {
			e.Rec = first[0]
		}
		v, why, err := expr.Eval(p.having[0], e)
		if why != 0 || err != api.OK {
			return nil, api.ErrType
		}
		if isTrue(v) {
			out = append(out, r)
		}
	}
	return out, api.OK
}

// distinct leaves out the rows that were there before.
func distinct(rows [][]api.Value) [][]api.Value {
	seen := map[string]bool{}
	var out [][]api.Value
	for _, r := range rows {
		if k := keyOf(r); !seen[k] {
			seen[k] = true
			out = append(out, r)
		}
	}
	return out
}

// sorted sorts rows by columns that all of them have: ErrType.
func sorted(rows [][]api.Value, by []int, down []bool) ([][]api.Value, api.Errno) {
	for _, k := range by {
		kind := api.Nil
		for _, r := range rows {
			if r[k].Kind == api.Nil {
				continue
			}
			if kind != api.Nil && r[k].Kind != kind {
				return nil, api.ErrType
			}
			kind = r[k].Kind
		}
	}
	out := slices.Clone(rows)
	slices.SortStableFunc(out, func(a, b []api.Value) int {
		for i, k := range by {
			n := compare(a[k], b[k])
			if down[i] {
				n = -n
			}
			if n != 0 {
				return n
			}
		}
		return 0
	})
	return out, api.OK
}

// compare orders two values of one kind, Nil first.
func compare(a, b api.Value) int {
	if a.Kind == api.Nil || b.Kind == api.Nil {
		return min(a.Kind, 1) - min(b.Kind, 1)
	}
	n, _ := val.Compare(a, b)
	return n
}
