package btree

import (
	"slices"

	"cabinetry/api"
)

const mostNodes = 8 * api.MaxRecs

// Index returns the nodes of the tree, the root first, each level behind the one above.
func (t *Tree) Index() api.Index {
	root, _ := t.state()
	if root == nil {
		return api.Index{}
	}
	var x api.Index
	level := []*node{root}
	for first := 0; len(level) > 0; {
		var below []*node
		first += len(level)
		for _, n := range level {
			var made api.Node
			for _, e := range n.items {
				made.Keys = append(made.Keys, e.key)
				made.Recs = append(made.Recs, e.rec)
			}
			for range n.kids {
				made.Kids = append(made.Kids, first+len(below)+len(made.Kids))
			}
			below = append(below, n.kids...)
			x.Nodes = append(x.Nodes, made)
		}
		level = below
	}
	return x
}

// Load makes the tree of an index.
func Load(x api.Index) (*Tree, api.Errno) {
	if _, e := Check(x); e != api.OK {
		return nil, e
	}
	t := &Tree{made: true, root: load(x, 0)}
	visitAll(t.root, func(entry) bool {
		t.size++
		return true
	})
	return t, api.OK
}

func load(x api.Index, at int) *node {
	n := &node{}
	for i, k := range x.Nodes[at].Keys {
		n.items = append(n.items, entry{k, x.Nodes[at].Recs[i]})
	}
	for _, kid := range x.Nodes[at].Kids {
		n.kids = append(n.kids, load(x, kid))
	}
	return n
}

// Check returns the number of what is wrong first with an index.
func Check(x api.Index) (int, api.Errno) {
	if len(x.Nodes) == 0 || len(x.Nodes) > mostNodes {
		return 1, api.ErrBroken
	}
	for i, isWrong := range [...]func(x api.Index) bool{hasWrongSize, hasWrongKids, hasFewEntries, hasUnevenLeaves, hasNoEntry, hasDisorder} {
		if isWrong(x) {
			return i + 2, api.ErrBroken
		}
	}
	return 0, api.OK
}

func hasWrongSize(x api.Index) bool {
	return slices.ContainsFunc(x.Nodes, func(n api.Node) bool {
		return len(n.Keys) != len(n.Recs) || len(n.Keys) > api.MaxNode || len(n.Kids) > 0 && len(n.Kids) != len(n.Keys)+1
	})
}

func hasWrongKids(x api.Index) bool {
	seen := make([]bool, len(x.Nodes))
	for _, n := range x.Nodes {
		for _, kid := range n.Kids {
			if kid < 1 || kid >= len(x.Nodes) || seen[kid] {
				return true
			}
			seen[kid] = true
		}
	}
	// No node is a kid twice and the root is none, so this comes to an end.
	reached := 0
	var reach func(at int)
	reach = func(at int) {
		reached++
		for _, kid := range x.Nodes[at].Kids {
			reach(kid)
		}
	}
	reach(0)
	return reached < len(x.Nodes)
}

func hasFewEntries(x api.Index) bool {
	for i, n := range x.Nodes {
		if i > 0 && len(n.Keys) < leastItems || len(n.Kids) > 0 && len(n.Keys) == 0 {
			return true
		}
	}
	return false
}

func hasUnevenLeaves(x api.Index) bool {
	depths := map[int]bool{}
	var visit func(at, depth int)
	visit = func(at, depth int) {
		if len(x.Nodes[at].Kids) == 0 {
			depths[depth] = true
		}
		for _, kid := range x.Nodes[at].Kids {
			visit(kid, depth+1)
		}
	}
	visit(0, 0)
	return len(depths) > 1
}

func hasNoEntry(x api.Index) bool {
	return slices.ContainsFunc(x.Nodes, func(n api.Node) bool {
		for i, k := range n.Keys {
			if !isEntry(entry{k, n.Recs[i]}) {
				return true
			}
		}
		return false
	})
}

func hasDisorder(x api.Index) bool {
	var last entry // less than each entry, as its record is 0
	wrong := false
	visitAll(load(x, 0), func(e entry) bool {
		wrong = wrong || compare(last, e) >= 0
		last = e
		return true
	})
	return wrong
}

// Bytes returns the bytes of an index.
func Bytes(x api.Index) ([]byte, api.Errno) {
	if _, e := Check(x); e != api.OK {
		return nil, e
	}
	out := appendTwo(nil, len(x.Nodes))
	for _, n := range x.Nodes {
		out = append(out, byte(len(n.Keys)), byte(len(n.Kids)))
		for i, k := range n.Keys {
			out = append(out, byte(len(k)))
			out = append(out, k...)
			out = appendTwo(out, n.Recs[i])
		}
		for _, kid := range n.Kids {
			out = appendTwo(out, kid)
		}
	}
	return out, api.OK
}

func appendTwo(b []byte, n int) []byte {
	return append(b, byte(n), byte(n>>8))
}

// Read returns the index with these bytes.
func Read(b []byte) (api.Index, api.Errno) {
	r := reader{b: b}
	x := r.index()
	if _, e := Check(x); r.failed || len(r.b) > 0 || e != api.OK {
		return api.Index{}, api.ErrBroken
	}
	return x, api.OK
}

// reader takes bytes; it has failed if there were too few.
type reader struct {
	b      []byte
	failed bool
}

func (r *reader) take(n int) []byte {
	if n > len(r.b) {
		r.failed = true
		return make([]byte, n)
	}
	out := r.b[:n]
	r.b = r.b[n:]
	return out
}

func (r *reader) one() int {
	return int(r.take(1)[0])
}

func (r *reader) two() int {
	b := r.take(2)
	return int(b[0]) + int(b[1])<<8
}

func (r *reader) index() api.Index {
	var x api.Index
	for nodes := r.two(); nodes > 0 && !r.failed; nodes-- {
		var n api.Node
		entries := r.one()
		kids := r.one()
		for ; entries > 0 && !r.failed; entries-- {
			size := r.one()
			n.Keys = append(n.Keys, string(r.take(size)))
			n.Recs = append(n.Recs, r.two())
		}
		for ; kids > 0 && !r.failed; kids-- {
			n.Kids = append(n.Kids, r.two())
		}
		x.Nodes = append(x.Nodes, n)
	}
	return x
}
