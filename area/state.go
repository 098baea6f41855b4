package area

import (
	"maps"
	"slices"
	"strconv"

	"cabinetry/api"
	"cabinetry/bag"
	"cabinetry/expr"
	"cabinetry/table"
	"cabinetry/tree"
)

// atEnd is the position behind the last record.
const atEnd = 0

// source is a text of an expression, with what it is.
type source struct {
	text string
	x    api.Expr
}

func parse(s string) (source, bool) {
	x, _, e := tree.ParseExpr(s)
	return source{s, x}, e == api.OK
}

// relation is a relation of a work area.
type relation struct {
	source
	child string
}

// area is a work area.
type area struct {
	alias, table string
	order        string
	filter       source // its text is empty: there is none
	at           int    // a record, or atEnd
	bof          bool
	relations    []relation
}

// holder is a table of a desk. Its fields and page never change.
type holder struct {
	bag    *bag.Bag
	names  []string
	fields []api.Field
	page   int
	blank  []api.Value
}

// state is what a desk has.
type state struct {
	tables         map[string]holder
	areas          []*area // as they were opened
	exact, deleted bool
}

// copied returns an equal state of its own.
func (s *state) copied() state {
	out := state{tables: maps.Clone(s.tables), exact: s.exact, deleted: s.deleted}
	for name, h := range out.tables {
		h.bag = h.bag.Copy()
		out.tables[name] = h
	}
	for _, a := range s.areas {
		one := *a
		one.relations = slices.Clone(a.relations)
		out.areas = append(out.areas, &one)
	}
	return out
}

// find returns the work area of an alias; nil: there is none.
func (s *state) find(alias string) *area {
	for _, a := range s.areas {
		if a.alias == alias {
			return a
		}
	}
	return nil
}

func (s *state) holderOf(a *area) holder {
	return s.tables[a.table]
}

func (s *state) count(a *area) int {
	return s.holderOf(a).bag.Len()
}

// number is the number of the position.
func (s *state) number(a *area) int {
	if a.at == atEnd {
		return s.count(a) + 1
	}
	return a.at
}

// record returns the record at the position.
func (s *state) record(a *area) api.Record {
	h := s.holderOf(a)
	r, e := h.bag.Record(a.at)
	if e != api.OK {
		return api.Record{V: h.blank}
	}
	return r
}

// eval returns the value of an expression in a work area, or why it dies.
func (s *state) eval(a *area, x api.Expr) (api.Value, int) {
	h, r := s.holderOf(a), s.record(a)
	env := api.Env{Names: h.names, Vals: r.V, Exact: s.exact, Page: h.page, Rec: s.number(a), Gone: r.Gone}
	if hasAlias(x) {
		given := aliases{state: s, used: map[string]bool{}}
		given.collect(x)
		x = given.replace(x)
		if given.why != 0 {
			return api.Value{}, given.why
		}
		env.Names = slices.Concat(env.Names, given.names)
		env.Vals = slices.Concat(env.Vals, given.vals)
	}
	v, why, e := expr.Eval(x, env)
	if e != api.OK {
		return api.Value{}, api.DieRule
	}
	return v, why
}

func hasAlias(x api.Expr) bool {
	return x.Op == api.XAlias || slices.ContainsFunc(x.L, hasAlias)
}

// aliases are the values of the outermost XAliases of an expression, which stand there by names of their own.
type aliases struct {
	*state
	used  map[string]bool
	names []string
	vals  []api.Value
	why   int
}

// collect finds the names that the expression has already.
func (g *aliases) collect(x api.Expr) {
	g.used[x.S] = true
	for _, part := range x.L {
		g.collect(part)
	}
}

// replace evaluates the XAliases from the left, up to one that dies.
func (g *aliases) replace(x api.Expr) api.Expr {
	if x.Op == api.XAlias {
		return g.value(x)
	}
	l := x.L
	x.L = nil
	for _, part := range l {
		x.L = append(x.L, g.replace(part))
	}
	return x
}

func (g *aliases) value(x api.Expr) api.Expr {
	if g.why != 0 {
		return x
	}
	in := g.find(x.S)
	if in == nil {
		g.why = api.DieName
		return x
	}
	v, why := g.eval(in, x.L[0])
	g.why = why
	name := ""
	for i := 0; name == "" || g.used[name]; i++ {
		name = "_" + strconv.Itoa(i) // no field has a name that begins so
	}
	g.used[name] = true
	g.names = append(g.names, name)
	g.vals = append(g.vals, v)
	return api.Expr{Op: api.XName, S: name}
}

// isTrue tells whether a condition is true when the work area stands at a record.
func (s *state) isTrueAt(a *area, k int, x api.Expr) bool {
	at := a.at
	a.at = k
	v, why := s.eval(a, x)
	a.at = at
	return why == 0 && v == api.Value{Kind: api.Truth, N: 1}
}

// inRow tells whether a record is in the row.
func (s *state) inRow(a *area, k int) bool {
	if s.deleted {
		if r, _ := s.holderOf(a).bag.Record(k); r.Gone {
			return false
		}
	}
	return a.filter.text == "" || s.isTrueAt(a, k, a.filter.x)
}

// sequence returns all records in the order of the work area, and with a tag their keys.
func (s *state) sequence(a *area) ([]string, []int) {
	b := s.holderOf(a).bag
	if a.order == "" {
		recs, _ := b.Order("")
		return nil, recs
	}
	keys, recs, _ := b.Entries(a.order)
	return keys, recs
}

// row returns the records of the row.
func (s *state) row(a *area) []int {
	_, recs := s.sequence(a)
	var out []int
	for _, k := range recs {
		if s.inRow(a, k) {
			out = append(out, k)
		}
	}
	return out
}

// place returns how many records of the sequence stand before a record, and how many stand not behind it.
func (s *state) place(a *area, k int) (int, int) {
	keys, recs := s.sequence(a)
	if k == atEnd {
		return len(recs), len(recs)
	}
	if a.order == "" {
		return k - 1, k
	}
	key, e := s.holderOf(a).bag.Key(a.order, k)
	if e != api.OK {
		return len(recs), len(recs)
	}
	before := 0
	for before < len(recs) && (keys[before] < key || keys[before] == key && recs[before] < k) {
		before++
	}
	if before < len(recs) && recs[before] == k {
		return before, before + 1
	}
	return before, before
}

// fieldPlaces returns the places of fields: ErrNone, then ErrTwice.
func (h holder) fieldPlaces(names []string) ([]int, api.Errno) {
	var places []int
	seen := map[string]bool{}
	for _, name := range names {
		i, ok := table.Index(h.fields, name)
		if !ok {
			return nil, api.ErrNone
		}
		places = append(places, i)
		seen[name] = true
	}
	if len(seen) < len(names) {
		return nil, api.ErrTwice
	}
	return places, api.OK
}
