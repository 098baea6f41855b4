package btree

import (
	"cmp"
	"slices"

	"cabinetry/api"
)

const leastItems = api.MaxNode / 2

// entry is a key with the number of a record.
type entry struct {
	key string
	rec int
}

func compare(a, b entry) int {
	return cmp.Or(cmp.Compare(a.key, b.key), cmp.Compare(a.rec, b.rec))
}

// node is a node of a tree. A node is never changed: what changes is copied, so that copies of trees share the rest.
type node struct {
	items []entry
	kids  []*node
}

// find returns the number of the first item that is not less than an entry, and whether it is this one.
func (n *node) find(e entry) (int, bool) {
	return slices.BinarySearchFunc(n.items, e, compare)
}

// has tells whether an entry is in the node or below it.
func (n *node) has(e entry) bool {
	i, ok := n.find(e)
	return ok || len(n.kids) > 0 && n.kids[i].has(e)
}

// walk goes through the entries from one on, in order, until visit says that it is enough.
func (n *node) walk(from entry, visit func(entry) bool) bool {
	i, _ := n.find(from)
	for ; i <= len(n.items); i++ {
		if len(n.kids) > 0 && !n.kids[i].walk(from, visit) {
			return false
		}
		if i < len(n.items) && !visit(n.items[i]) {
			return false
		}
	}
	return true
}

// before returns the last entry less than e.
func (n *node) before(e entry) (entry, bool) {
	i, _ := n.find(e)
	if len(n.kids) > 0 {
		if found, ok := n.kids[i].before(e); ok {
			return found, true
		}
	}
	if i == 0 {
		return entry{}, false
	}
	return n.items[i-1], true
}

// last returns the last entry below a node.
func (n *node) last() entry {
	if len(n.kids) > 0 {
		return n.kids[len(n.kids)-1].last()
	}
	return n.items[len(n.items)-1]
}

// with returns a copy of a list with another element at a place.
func with[T any](l []T, i int, v T) []T {
	out := make([]T, len(l)+1)
	copy(out, l[:i])
	out[i] = v
	copy(out[i+1:], l[i:])
	return out
}

// without returns a copy of a list without the element at a place.
func without[T any](l []T, i int) []T {
	return slices.Concat(l[:i], l[i+1:])
}

// replaced returns a copy of a list with the element at a place replaced.
func replaced[T any](l []T, i int, v T) []T {
	out := slices.Clone(l)
	out[i] = v
	return out
}

// put returns the node with an entry more; if it is too large, it is split: then there is an entry and a node behind it.
func (n *node) put(e entry) (*node, entry, *node) {
	i, _ := n.find(e)
	if len(n.kids) == 0 {
		return split(&node{items: with(n.items, i, e)})
	}
	kid, middle, behind := n.kids[i].put(e)
	if behind == nil {
		return &node{items: n.items, kids: replaced(n.kids, i, kid)}, entry{}, nil
	}
	kids := with(replaced(n.kids, i, kid), i+1, behind)
	return split(&node{items: with(n.items, i, middle), kids: kids})
}

func split(n *node) (*node, entry, *node) {
	if len(n.items) <= api.MaxNode {
		return n, entry{}, nil
	}
	half := len(n.items) / 2
	left := &node{items: slices.Clone(n.items[:half])}
	right := &node{items: slices.Clone(n.items[half+1:])}
	if len(n.kids) > 0 {
		left.kids = slices.Clone(n.kids[:half+1])
		right.kids = slices.Clone(n.kids[half+1:])
	}
	return left, n.items[half], right
}

// take returns the node without an entry that it has; it may have too few then.
func (n *node) take(e entry) *node {
	i, here := n.find(e)
	if len(n.kids) == 0 {
		return &node{items: without(n.items, i)}
	}
	out := &node{items: n.items}
	if here {
		e = n.kids[i].last()
		out.items = replaced(n.items, i, e)
	}
	out.kids = replaced(n.kids, i, n.kids[i].take(e))
	if len(out.kids[i].items) < leastItems {
		out.fill(i)
	}
	return out
}

// fill gives a kid that has too few entries one of a kid beside it, or makes one kid of both. The node is new, and its lists are its own or replaced here.
func (n *node) fill(i int) {
	switch {
	case i > 0 && len(n.kids[i-1].items) > leastItems:
		n.fromLeft(i)
	case i+1 < len(n.kids) && len(n.kids[i+1].items) > leastItems:
		n.fromRight(i)
	case i > 0:
		n.merge(i - 1)
	default:
		n.merge(i)
	}
}

func (n *node) fromLeft(i int) {
	left, kid := n.kids[i-1], n.kids[i]
	end := len(left.items) - 1
	filled := &node{items: with(kid.items, 0, n.items[i-1])}
	rest := &node{items: left.items[:end:end]}
	if len(left.kids) > 0 {
		filled.kids = with(kid.kids, 0, left.kids[end+1])
		rest.kids = left.kids[: end+1 : end+1]
	}
	n.items = replaced(n.items, i-1, left.items[end])
	n.kids[i-1], n.kids[i] = rest, filled
}

func (n *node) fromRight(i int) {
	kid, right := n.kids[i], n.kids[i+1]
	filled := &node{items: with(kid.items, len(kid.items), n.items[i])}
	rest := &node{items: right.items[1:]}
	if len(right.kids) > 0 {
		filled.kids = with(kid.kids, len(kid.kids), right.kids[0])
		rest.kids = right.kids[1:]
	}
	n.items = replaced(n.items, i, right.items[0])
	n.kids[i], n.kids[i+1] = filled, rest
}

// merge makes one kid of two and the entry between them.
func (n *node) merge(i int) {
	left, right := n.kids[i], n.kids[i+1]
	n.kids[i] = &node{
		items: slices.Concat(left.items, n.items[i:i+1], right.items),
		kids:  slices.Concat(left.kids, right.kids),
	}
	n.items = without(n.items, i)
	n.kids = without(n.kids, i+1)
}
