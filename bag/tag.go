package bag

import (
	"cmp"
	"slices"

	"cabinetry/api"
	"cabinetry/btree"
	"cabinetry/expr"
	"cabinetry/key"
	"cabinetry/table"
	"cabinetry/tree"
)

// slot is what a tag has of a record: its key, if its condition is true and its mark does not keep it out.
type slot struct {
	in  bool
	key string
}

// tag is a tag with what it has of the records.
type tag struct {
	api.Tag
	key, cond api.Expr
	slots     []slot
	tree      *btree.Tree
}

// isName tells whether a text may be the name of a tag: that of a field.
func isName(s string) bool {
	return table.ValidateFields([]api.Field{{Name: s, Kind: api.Truth, Width: 1}}) == api.OK
}

func isTag(g api.Tag) bool {
	return isName(g.Name) && g.Uniq >= 0 && g.Uniq <= 2 && (g.Coll == 0 || g.Coll == 1)
}

// parse reads the texts of a tag.
func parse(g api.Tag) (tag, bool) {
	made := tag{Tag: g}
	var e api.Errno
	made.key, _, e = tree.ParseExpr(g.Key)
	if e == api.OK && g.For != "" {
		made.cond, _, e = tree.ParseExpr(g.For)
	}
	return made, e == api.OK
}

// environment is what an expression sees of a record.
func environment(t api.Table, k int) api.Env {
	e := api.Env{Exact: true, Page: t.Page, Rec: k, Gone: t.Recs[k-1].Gone, Vals: t.Recs[k-1].V}
	for _, f := range t.Fields {
		e.Names = append(e.Names, f.Name)
	}
	return e
}

// keyOf returns the key that a record has, whatever its condition says; false: it dies.
func (g *tag) keyOf(t api.Table, e api.Env) (string, bool) {
	v, why, err := expr.Eval(g.key, e)
	if why != 0 || err != api.OK {
		return "", false
	}
	k, err := key.Encode(v, t.Page, g.Coll, g.Down)
	return k, err == api.OK
}

// slotOf returns what the tag has of a record; false: an expression dies.
func (g *tag) slotOf(t api.Table, k int) (slot, bool) {
	e := environment(t, k)
	if g.For != "" {
		ok, why, err := expr.IsTrue(g.cond, e)
		if why != 0 || err != api.OK {
			return slot{}, false
		}
		if !ok {
			return slot{}, true
		}
	}
	s, ok := g.keyOf(t, e)
	if !ok {
		return slot{}, false
	}
	if g.Uniq == 2 && e.Gone {
		return slot{}, true
	}
	return slot{in: true, key: s}, true
}

// fill makes the slots and the tree for a table: ErrType if an expression dies, then ErrRule.
func (g *tag) fill(t api.Table) api.Errno {
	g.slots = nil
	for i := range t.Recs {
		s, ok := g.slotOf(t, i+1)
		if !ok {
			return api.ErrType
		}
		g.slots = append(g.slots, s)
	}
	keys, recs := g.entries()
	if g.Uniq == 2 && len(slices.Compact(slices.Clone(keys))) < len(keys) {
		return api.ErrRule
	}
	g.tree, _ = btree.Build(keys, recs)
	return api.OK
}

// entries returns the entries of the tag, in order.
func (g *tag) entries() ([]string, []int) {
	var recs []int
	for i, s := range g.slots {
		if s.in {
			recs = append(recs, i+1)
		}
	}
	slices.SortStableFunc(recs, func(a, b int) int {
		return cmp.Compare(g.slots[a-1].key, g.slots[b-1].key)
	})
	if g.Uniq == 1 {
		recs = slices.CompactFunc(recs, func(a, b int) bool { return g.slots[a-1].key == g.slots[b-1].key })
	}
	var keys []string
	for _, k := range recs {
		keys = append(keys, g.slots[k-1].key)
	}
	return keys, recs
}

// copied returns a tag that may be changed.
func (g *tag) copied() tag {
	out := *g
	out.slots = slices.Clone(g.slots)
	out.tree = g.tree.Copy()
	return out
}

// holder returns the record that has the entry of a key with Uniq 1, or 0.
func (g *tag) holder(key string) int {
	return slices.Index(g.slots, slot{in: true, key: key}) + 1
}

// set changes what the tag has of a record.
func (g *tag) set(k int, s slot) {
	old := g.slots[k-1]
	if old == s {
		return
	}
	if g.Uniq != 1 {
		g.slots[k-1] = s
		if old.in {
			g.tree.Take(old.key, k)
		}
		if s.in {
			g.tree.Put(s.key, k)
		}
		return
	}
	before := [2]int{g.holder(old.key), g.holder(s.key)}
	g.slots[k-1] = s
	for i, key := range [...]string{old.key, s.key} {
		if after := g.holder(key); after != before[i] {
			g.tree.Take(key, before[i])
			g.tree.Put(key, after)
		}
	}
}

// isTwice tells whether another record has the key of this one.
func (g *tag) isTwice(k int) bool {
	s := g.slots[k-1]
	return s.in && g.tree.Count(s.key, s.key+"\x00") > 1
}
