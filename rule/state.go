package rule

import (
	"errors"
	"maps"
	"slices"

	"cabinetry/api"
	"cabinetry/expr"
	"cabinetry/table"
)

// The kinds of rules.
const (
	fieldCheck = 0
	rowCheck   = 1
	fallback   = 2
	uniqueKey  = 3
	reference  = 4
)

// What happens to those that refer to a record that goes, or whose key changes.
const (
	refuse = 0
	follow = 1
	forget = 2
)

const mostChanges = 200 // in one another

var (
	errRule  = errors.New("a rule is not kept")
	errLarge = errors.New("too many changes in one another")
	errFit   = errors.New("a value does not fit")
)

// refusal is a rule that is not kept.
type refusal struct {
	number int
	name   string
}

func (r refusal) Error() string { return errRule.Error() }

func (r refusal) Unwrap() error { return errRule }

// within is what broke a change in a change.
type within struct {
	err error
}

func (w within) Error() string { return "in a change: " + w.err.Error() }

func (w within) Unwrap() error { return w.err }

// held is a rule with the expression of its text.
type held struct {
	api.Rule
	x api.Expr
}

// place is a record of a table.
type place struct {
	table string
	k     int
}

// state is what a container has. Records are never changed in place, so that copies share them.
type state struct {
	tables map[string]api.Table
	rules  []held
}

func (s state) copied() state {
	out := state{tables: maps.Clone(s.tables), rules: slices.Clone(s.rules)}
	for name, t := range out.tables {
		t.Recs = slices.Clone(t.Recs)
		out.tables[name] = t
	}
	return out
}

// record returns a live record; false: it is none, or gone.
func (s state) record(p place) (api.Record, bool) {
	t := s.tables[p.table]
	if p.k < 1 || p.k > len(t.Recs) || t.Recs[p.k-1].Gone {
		return api.Record{}, false
	}
	return t.Recs[p.k-1], true
}

// value is the value of a field of a live record; false: there is none.
func (s state) value(p place, field string) (api.Value, bool) {
	r, ok := s.record(p)
	if !ok {
		return api.Value{}, false
	}
	i, _ := table.Index(s.tables[p.table].Fields, field)
	return r.V[i], true
}

// live goes through the live records of a table.
func (s state) live(name string, visit func(k int, r api.Record)) {
	for i, r := range s.tables[name].Recs {
		if !r.Gone {
			visit(i+1, r)
		}
	}
}

// eval returns the value of an expression at a record; false: it dies.
func (s state) eval(name string, k int, x api.Expr) (api.Value, bool) {
	t := s.tables[name]
	e := api.Env{Vals: t.Recs[k-1].V, Exact: true, Page: t.Page, Rec: k, Gone: t.Recs[k-1].Gone}
	for _, f := range t.Fields {
		e.Names = append(e.Names, f.Name)
	}
	v, why, err := expr.Eval(x, e)
	return v, why == 0 && err == api.OK
}

// broken returns the records that do not keep a rule.
func (s state) broken(r held) []int {
	asked := map[int]func(s state, r held) []int{
		fieldCheck: state.unchecked, rowCheck: state.unchecked, uniqueKey: state.unlikely, reference: state.dangling,
	}
	ask, ok := asked[r.Kind]
	if !ok {
		return nil
	}
	return ask(s, r)
}

// unchecked are the records for which a check is false.
func (s state) unchecked(r held) []int {
	var out []int
	s.live(r.Table, func(k int, _ api.Record) {
		if v, ok := s.eval(r.Table, k, r.x); !ok || v == (api.Value{Kind: api.Truth}) {
			out = append(out, k)
		}
	})
	return out
}

// unlikely are the records whose key is Nil, or that of one before.
func (s state) unlikely(r held) []int {
	i, _ := table.Index(s.tables[r.Table].Fields, r.Name)
	seen := map[api.Value]bool{{}: true}
	var out []int
	s.live(r.Table, func(k int, rec api.Record) {
		if seen[rec.V[i]] {
			out = append(out, k)
		}
		seen[rec.V[i]] = true
	})
	return out
}

// dangling are the records that refer to nothing.
func (s state) dangling(r held) []int {
	there := map[api.Value]bool{{}: true}
	i, _ := table.Index(s.tables[r.Other].Fields, r.Key)
	s.live(r.Other, func(_ int, rec api.Record) { there[rec.V[i]] = true })
	i, _ = table.Index(s.tables[r.Table].Fields, r.Name)
	var out []int
	s.live(r.Table, func(k int, rec api.Record) {
		if !there[rec.V[i]] {
			out = append(out, k)
		}
	})
	return out
}

// ask asks all rules, in order.
func (s state) ask() error {
	for n, r := range s.rules {
		if len(s.broken(r)) > 0 {
			return refusal{n, r.Name}
		}
	}
	return nil
}

// change is a change with all that follows from it.
type change struct {
	state
	touched map[place]bool
	depth   int
}

func newChange(s state) *change {
	return &change{state: s, touched: map[place]bool{}}
}

// moved is a key that goes, or that becomes another one.
type moved struct {
	table, field string
	old, new     api.Value
}

// do puts a record in the place of a live one and does what follows from it.
func (c *change) do(p place, r api.Record) error {
	c.depth++
	defer func() { c.depth-- }()
	if c.depth > mostChanges {
		return errLarge
	}
	old, _ := c.record(p)
	c.tables[p.table].Recs[p.k-1] = r
	c.touched[p] = true
	keys := c.movedKeys(p.table, old, r)
	for n, rule := range c.rules {
		for _, key := range keys {
			if rule.Kind == reference && rule.Mode == refuse && rule.refersTo(key) && c.refers(rule, key.old) {
				return refusal{n, rule.Name}
			}
		}
	}
	for n, rule := range c.rules {
		for _, key := range keys {
			if rule.Kind != reference || rule.Mode == refuse || !rule.refersTo(key) {
				continue
			}
			if err := c.follow(n, key, r.Gone); err != nil {
				return within{err}
			}
		}
	}
	return nil
}

func (r held) refersTo(key moved) bool {
	return r.Other == key.table && r.Key == key.field
}

// movedKeys are the keys of a record that are others now, in the order of their rules.
func (c *change) movedKeys(name string, old, r api.Record) []moved {
	var out []moved
	for _, rule := range c.rules {
		if rule.Kind != uniqueKey || rule.Table != name {
			continue
		}
		i, _ := table.Index(c.tables[name].Fields, rule.Name)
		if old.V[i].Kind != api.Nil && (r.Gone || r.V[i] != old.V[i]) {
			out = append(out, moved{name, rule.Name, old.V[i], r.V[i]})
		}
	}
	return out
}

// refers tells whether a live record refers to a value.
func (c *change) refers(r held, v api.Value) bool {
	for i := range c.tables[r.Table].Recs {
		if have, ok := c.value(place{r.Table, i + 1}, r.Name); ok && have == v {
			return true
		}
	}
	return false
}

// follow changes those that refer to a key that goes or becomes another one.
func (c *change) follow(number int, key moved, gone bool) error {
	r := c.rules[number]
	for i := range c.tables[r.Table].Recs {
		p := place{r.Table, i + 1}
		if have, ok := c.value(p, r.Name); !ok || have != key.old {
			continue
		}
		next, err := c.following(number, p, key, gone)
		if err != nil {
			return err
		}
		if err := c.do(p, next); err != nil {
			return err
		}
	}
	return nil
}

// following is what a record that refers to a key becomes.
func (c *change) following(number int, p place, key moved, gone bool) (api.Record, error) {
	r := c.rules[number]
	next, _ := c.record(p)
	if r.Mode == follow && gone {
		next.Gone = true
		return next, nil
	}
	var v api.Value
	if r.Mode == follow {
		v = key.new
	}
	t := c.tables[p.table]
	i, _ := table.Index(t.Fields, r.Name)
	v, e := table.Fit(t.Fields[i], t.Page, v)
	if e == api.ErrRule {
		return api.Record{}, refusal{number, r.Name}
	}
	if e != api.OK {
		return api.Record{}, errFit
	}
	next.V = slices.Clone(next.V)
	next.V[i] = v
	return next, nil
}
