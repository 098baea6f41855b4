package bag

import (
	"maps"
	"slices"

	"cabinetry/api"
	"cabinetry/btree"
	"cabinetry/table"
)

// entry is an entry of an index.
type entry struct {
	key string
	rec int
}

// checked is a tag that was held against an index.
type checked struct {
	tag
	holds bool
	found [][3]int
}

// inspect holds indexes against the tags of a table.
func inspect(t api.Table, l []api.Tag, x []api.Index) ([]checked, api.Errno) {
	if e := table.Validate(t); e != api.OK {
		return nil, e
	}
	if len(l) != len(x) {
		return nil, api.ErrFit
	}
	tags, e := parseAll(l)
	if e != api.OK {
		return nil, e
	}
	var out []checked
	for i, g := range tags {
		c := checked{tag: g}
		c.holds = c.fill(t) == api.OK
		c.found = c.differences(i, x[i])
		out = append(out, c)
	}
	return out, api.OK
}

// parseAll reads tags: all of them are asked for each error before the next one.
func parseAll(l []api.Tag) ([]tag, api.Errno) {
	for _, g := range l {
		if !isTag(g) {
			return nil, api.ErrArg
		}
	}
	var tags []tag
	names := map[string]bool{}
	for _, g := range l {
		made, ok := parse(g)
		if !ok {
			return nil, api.ErrSyntax
		}
		tags = append(tags, made)
		names[g.Name] = true
	}
	if len(names) < len(l) {
		return nil, api.ErrTwice
	}
	if len(l) > api.MaxTags {
		return nil, api.ErrLarge
	}
	return tags, api.OK
}

// differences tells what is wrong with the index of a tag.
func (c *checked) differences(number int, x api.Index) [][3]int {
	if !c.holds {
		return [][3]int{{number, 3, 0}}
	}
	if n, e := btree.Check(x); e != api.OK {
		return [][3]int{{number, 0, n}}
	}
	found := map[[3]int]bool{}
	want, got := entriesOf(c.tree.Index()), entriesOf(x)
	for e := range want {
		if !got[e] {
			found[[3]int{number, 1, e.rec}] = true
		}
	}
	for e := range got {
		if !want[e] {
			found[[3]int{number, 2, e.rec}] = true
		}
	}
	return slices.SortedFunc(maps.Keys(found), func(a, b [3]int) int { return slices.Compare(a[:], b[:]) })
}

func entriesOf(x api.Index) map[entry]bool {
	out := map[entry]bool{}
	for _, n := range x.Nodes {
		for i, k := range n.Keys {
			out[entry{k, n.Recs[i]}] = true
		}
	}
	return out
}

// Check returns what is wrong with indexes as those of tags.
func Check(t api.Table, l []api.Tag, x []api.Index) ([][3]int, api.Errno) {
	tags, e := inspect(t, l, x)
	if e != api.OK {
		return nil, e
	}
	var out [][3]int
	for _, c := range tags {
		out = append(out, c.found...)
	}
	return out, api.OK
}

// Open returns the bag that a table, tags and indexes are.
func Open(t api.Table, l []api.Tag, x []api.Index) (*Bag, api.Errno) {
	b, wrong, e := Repair(t, l, x)
	if e != api.OK {
		return nil, e
	}
	if len(wrong) > 0 {
		return nil, api.ErrBroken
	}
	return b, api.OK
}

// Repair returns a bag with the tags that hold, and the numbers of those with which something is wrong.
func Repair(t api.Table, l []api.Tag, x []api.Index) (*Bag, []int, api.Errno) {
	tags, e := inspect(t, l, x)
	if e != api.OK {
		return nil, nil, e
	}
	b := &Bag{made: true, now: content{table: copiedTable(t)}}
	var wrong []int
	for i, c := range tags {
		if len(c.found) > 0 {
			wrong = append(wrong, i)
		}
		if c.holds {
			b.now.tags = append(b.now.tags, c.tag)
		}
	}
	return b, wrong, api.OK
}
