package btree_test

import (
	"bytes"
	"cmp"
	"math/rand"
	"reflect"
	"slices"
	"strings"
	"sync"
	"testing"

	"cabinetry/api"
	"cabinetry/btree"
)

type pair struct {
	key string
	rec int
}

func order(a, b pair) int {
	return cmp.Or(cmp.Compare(a.key, b.key), cmp.Compare(a.rec, b.rec))
}

func keysAndRecs(l []pair) ([]string, []int) {
	var keys []string
	var recs []int
	for _, p := range l {
		keys = append(keys, p.key)
		recs = append(recs, p.rec)
	}
	return keys, recs
}

func build(t *testing.T, keys string) *btree.Tree {
	t.Helper()
	tree := btree.New()
	for i, k := range strings.Fields(keys) {
		if e := tree.Put(k, i+1); e != api.OK {
			t.Fatal(e)
		}
	}
	return tree
}

// P10.1
func TestPutAndTake(t *testing.T) {
	tree := build(t, "a b c d e")
	x := tree.Index()
	if len(x.Nodes) != 3 || len(x.Nodes[0].Keys) != 1 || len(x.Nodes[0].Kids) != 2 {
		t.Error("five keys", x)
	}
	if x := btree.New().Index(); !reflect.DeepEqual(x, api.Index{Nodes: make([]api.Node, 1)}) {
		t.Error("no entries", x)
	}
	long := strings.Repeat("x", 101)
	for _, c := range []struct {
		key       string
		rec       int
		put, take api.Errno
	}{
		{"a", 1, api.ErrTwice, api.OK}, {"a", 1, api.OK, api.OK}, {"a", 2, api.OK, api.OK}, {long, 1, api.ErrArg, api.ErrArg}, {"a", 0, api.ErrArg, api.ErrArg}, {"a", 301, api.ErrArg, api.ErrArg}, {"", 300, api.OK, api.OK}, {long[:100], 1, api.OK, api.OK},
	} {
		if e := tree.Put(c.key, c.rec); e != c.put {
			t.Errorf("Put %.5q %d: %d", c.key, c.rec, e)
		}
		if e := tree.Take(c.key, c.rec); e != c.take {
			t.Errorf("Take %.5q %d: %d", c.key, c.rec, e)
		}
		if e := tree.Take(c.key, c.rec); c.take == api.OK && e != api.ErrNone {
			t.Errorf("Take %.5q %d again: %d", c.key, c.rec, e)
		}
	}
}

func TestBuildErrors(t *testing.T) {
	var keys []string
	var recs []int
	for i := range 1201 {
		keys = append(keys, string([]byte{byte(i / 100), byte(i % 100)}))
		recs = append(recs, i%300+1)
	}
	for i, c := range []struct {
		keys []string
		recs []int
		e    api.Errno
	}{
		{[]string{"a"}, nil, api.ErrFit}, {[]string{"a", "a"}, []int{1, 1}, api.ErrArg}, {[]string{"a", "a"}, []int{1, 2}, api.OK}, {[]string{"b", "a"}, []int{1, 2}, api.ErrArg}, {[]string{"a"}, []int{0}, api.ErrArg}, {[]string{strings.Repeat("x", 101)}, []int{1}, api.ErrArg},
		{keys[:1200], recs[:1200], api.OK}, {keys, recs, api.ErrLarge}, {append(slices.Clone(keys), "a"), append(slices.Clone(recs), 0), api.ErrArg}, {nil, nil, api.OK},
	} {
		if tree, e := btree.Build(c.keys, c.recs); e != c.e || (tree == nil) == (e == api.OK) {
			t.Errorf("Build %d: %d", i, e)
		}
	}
	full, _ := btree.Build(keys[:1200], recs[:1200])
	if full.Put(keys[5], recs[5]) != api.ErrTwice || full.Put("z", 1) != api.ErrLarge || full.Len() != 1200 {
		t.Error("a full tree")
	}
	if e := full.Take(keys[5], recs[5]); e != api.OK || full.Put("z", 1) != api.OK {
		t.Error("room again")
	}
}

// P10.2, P10.4: a tree is held against a list.
func TestAgainstList(t *testing.T) {
	r := rand.New(rand.NewSource(10))
	for round := range 30 {
		tree := btree.New()
		var list []pair
		some := func() pair {
			return pair{strings.Repeat(string(rune('a'+r.Intn(4))), r.Intn(3)) + string(rune('a'+r.Intn(5))), 1 + r.Intn(8)}
		}
		for range 150 {
			p := some()
			i, has := slices.BinarySearchFunc(list, p, order)
			if r.Intn(5) < 3 == (round%2 == 0 || len(list) < 40) {
				want := api.OK
				if has {
					want = api.ErrTwice
				} else {
					list = slices.Insert(list, i, p)
				}
				if e := tree.Put(p.key, p.rec); e != want {
					t.Fatal("Put", e)
				}
			} else {
				want := api.ErrNone
				if has {
					want = api.OK
					list = slices.Delete(list, i, i+1)
				}
				if e := tree.Take(p.key, p.rec); e != want {
					t.Fatal("Take", e)
				}
			}
			compareWithList(t, tree, list, some(), some())
		}
	}
}

func compareWithList(t *testing.T, tree *btree.Tree, list []pair, p, q pair) {
	t.Helper()
	x := tree.Index()
	if n, e := btree.Check(x); n != 0 || e != api.OK {
		t.Fatal("Check", n, x)
	}
	keys, recs := keysAndRecs(list)
	same, e := btree.Build(keys, recs)
	if e != api.OK || !btree.Same(tree, same) || tree.Len() != len(list) {
		t.Fatal("Same", e)
	}
	gotKeys, gotRecs := tree.Range("", "", -1)
	if !slices.Equal(gotKeys, keys) || !slices.Equal(gotRecs, recs) {
		t.Fatal("Range")
	}
	i, has := slices.BinarySearchFunc(list, p, order)
	after := i
	if has {
		after++
	}
	first, _ := slices.BinarySearchFunc(list, pair{key: p.key}, order)
	last, _ := slices.BinarySearchFunc(list, pair{key: q.key}, order)
	if n := tree.Rank(p.key, p.rec); n != i {
		t.Fatal("Rank", n, i)
	}
	isAt := func(what string, k int, key string, rec int, ok bool) {
		t.Helper()
		want := pair{}
		if k >= 0 && k < len(list) {
			want = list[k]
		}
		if (pair{key, rec}) != want || ok != (k >= 0 && k < len(list)) {
			t.Fatal(what, k, key, rec, ok)
		}
	}
	for _, k := range []int{-1, 0, i, len(list)} {
		key, rec, ok := tree.At(k)
		isAt("At", k, key, rec, ok)
	}
	key, rec, ok := tree.Next(p.key, p.rec)
	isAt("Next", after, key, rec, ok)
	key, rec, ok = tree.Prev(p.key, p.rec)
	isAt("Prev", i-1, key, rec, ok)
	key, rec, ok = tree.Seek(p.key)
	isAt("Seek", first, key, rec, ok)
	if n := tree.Count(p.key, q.key); n != max(last-first, 0) {
		t.Fatal("Count", n, first, last)
	}
	gotKeys, _ = tree.Range(p.key, q.key, 3)
	if !slices.Equal(gotKeys, keys[min(first, last):min(max(last, first), first+3)]) && last > first {
		t.Fatal("Range", gotKeys)
	}
}

func TestArgumentsBeyond(t *testing.T) {
	tree := build(t, "a b c")
	if tree.Rank("", -5) != 0 || tree.Rank(strings.Repeat("z", 500), 999) != 3 || tree.Count("b", "a") != 0 || tree.Count("b", "") != 2 {
		t.Error("Rank, Count")
	}
	if k, _ := tree.Range("", "", 0); len(k) != 0 {
		t.Error("Range of none")
	}
	if _, _, ok := tree.Next("c", 3); ok {
		t.Error("Next of the last")
	}
	if k, r, ok := tree.Next("c", 2); k != "c" || r != 3 || !ok {
		t.Error("Next of an equal key")
	}
	if _, _, ok := tree.Prev("a", 1); ok {
		t.Error("Prev of the first")
	}
}

func TestNil(t *testing.T) {
	for _, tree := range []*btree.Tree{nil, {}} {
		keys, recs := tree.Range("", "", -1)
		if tree.Put("a", 1) != api.ErrState || tree.Take("a", 1) != api.ErrState || tree.Len()+tree.Rank("z", 1)+tree.Count("", "") != 0 || keys != nil || recs != nil || tree.Index().Nodes != nil || tree.Copy() != nil {
			t.Error("nil")
		}
		_, _, ok1 := tree.At(0)
		_, _, ok2 := tree.Seek("")
		_, _, ok3 := tree.Next("", 0)
		_, _, ok4 := tree.Prev("z", 0)
		if ok1 || ok2 || ok3 || ok4 || !btree.Same(tree, nil) || btree.Same(tree, btree.New()) || btree.Same(btree.New(), tree) {
			t.Error("nil")
		}
	}
}

func TestCopyIsItsOwn(t *testing.T) {
	a := build(t, "a b c d e f g h i j k l m n o p")
	before := a.Index()
	b := a.Copy()
	for i, k := range strings.Fields("p a h c o b d") {
		b.Put(k, 100+i)
		_, rec, _ := b.Seek(k)
		b.Take(k, rec)
	}
	if !reflect.DeepEqual(a.Index(), before) || btree.Same(a, b) || !btree.Same(a, a.Copy()) {
		t.Error("a copy has changed the tree")
	}
	x := a.Index()
	x.Nodes[0].Keys[0] = "changed"
	if !reflect.DeepEqual(a.Index(), before) {
		t.Error("a result shares memory with the tree")
	}
}

// P10.3
func TestCheck(t *testing.T) {
	leaf := func(keys string, recs ...int) api.Node { return api.Node{Keys: strings.Split(keys, ""), Recs: recs} }
	ok := func() api.Index {
		return api.Index{Nodes: []api.Node{{Keys: []string{"c"}, Recs: []int{3}, Kids: []int{1, 2}}, leaf("ab", 1, 2), leaf("de", 4, 5)}}
	}
	for i, c := range []struct {
		change func(x *api.Index)
		want   int
	}{
		{func(x *api.Index) {}, 0},
		{func(x *api.Index) { x.Nodes = nil }, 1},
		{func(x *api.Index) { x.Nodes = make([]api.Node, 2401) }, 1},
		{func(x *api.Index) { x.Nodes = make([]api.Node, 2400) }, 3},
		{func(x *api.Index) { x.Nodes = x.Nodes[1:2] }, 0},
		{func(x *api.Index) { x.Nodes = make([]api.Node, 1) }, 0},
		{func(x *api.Index) { x.Nodes[1].Recs = nil; x.Nodes[0].Kids[0] = 9 }, 2},
		{func(x *api.Index) { x.Nodes[1] = leaf("abbbb", 1, 2, 3, 4, 5) }, 2},
		{func(x *api.Index) { x.Nodes[1] = leaf("abbb", 1, 2, 3, 4) }, 0},
		{func(x *api.Index) { x.Nodes[0].Kids = []int{1} }, 2},
		{func(x *api.Index) { x.Nodes[0].Kids = []int{1, 3}; x.Nodes[1].Keys[0] = "z" }, 3},
		{func(x *api.Index) { x.Nodes[0].Kids = []int{1, 0} }, 3},
		{func(x *api.Index) { x.Nodes[0].Kids = []int{1, 1} }, 3},
		{func(x *api.Index) { x.Nodes[0].Kids = []int{1, -1} }, 3},
		{func(x *api.Index) { x.Nodes = append(x.Nodes, leaf("xy", 1, 2)) }, 3},
		{func(x *api.Index) { x.Nodes[0].Kids = nil }, 3},
		{func(x *api.Index) { x.Nodes[1] = leaf("a", 0) }, 4},
		{func(x *api.Index) { x.Nodes[0] = api.Node{Kids: []int{1}}; x.Nodes = x.Nodes[:2] }, 4},
		{func(x *api.Index) {
			x.Nodes[2] = api.Node{Keys: []string{"f", "i"}, Recs: []int{0, 1}, Kids: []int{3, 4, 5}}
			x.Nodes = append(x.Nodes, leaf("de", 4, 5), leaf("gh", 1, 1), leaf("jk", 1, 1))
		}, 5},
		{func(x *api.Index) { x.Nodes[1].Recs[1] = 0; x.Nodes[2].Keys[0] = "a" }, 6},
		{func(x *api.Index) { x.Nodes[1].Recs[1] = 301 }, 6},
		{func(x *api.Index) { x.Nodes[1].Keys[1] = "b" + strings.Repeat("x", 100) }, 6},
		{func(x *api.Index) { x.Nodes[1].Keys[1] = "a"; x.Nodes[1].Recs[1] = 1 }, 7},
		{func(x *api.Index) { x.Nodes[1].Keys[1] = "c"; x.Nodes[1].Recs[1] = 3 }, 7},
		{func(x *api.Index) { x.Nodes[1].Keys[1] = "c"; x.Nodes[1].Recs[1] = 2 }, 0},
		{func(x *api.Index) { x.Nodes[2].Keys[0] = "b" }, 7},
	} {
		x := ok()
		c.change(&x)
		want := api.OK
		if c.want != 0 {
			want = api.ErrBroken
		}
		n, e := btree.Check(x)
		tree, e2 := btree.Load(x)
		b, e3 := btree.Bytes(x)
		if n != c.want || e != want || e2 != want || e3 != want || (tree == nil) != (e != api.OK) || (b == nil) != (e != api.OK) {
			t.Errorf("case %d: %d %d %d %d, want %d", i, n, e, e2, e3, c.want)
		}
		if e == api.OK {
			y, e := btree.Read(b)
			again, _ := btree.Bytes(y)
			if e != api.OK || !bytes.Equal(b, again) || tree.Len() != loadLen(x) {
				t.Errorf("case %d: Read of Bytes", i)
			}
		}
	}
}

func loadLen(x api.Index) int {
	n := 0
	for _, node := range x.Nodes {
		n += len(node.Keys)
	}
	return n
}

// P10.4
func TestBytes(t *testing.T) {
	x := api.Index{Nodes: []api.Node{{Keys: []string{"c"}, Recs: []int{258}, Kids: []int{1, 2}}, {Keys: []string{"", "b"}, Recs: []int{1, 2}}, {Keys: []string{"d", "ee"}, Recs: []int{4, 5}}}}
	b, e := btree.Bytes(x)
	want := "\x03\x00\x01\x02\x01c\x02\x01\x01\x00\x02\x00\x02\x00\x00\x01\x00\x01b\x02\x00\x02\x00\x01d\x04\x00\x02ee\x05\x00"
	if string(b) != want || e != api.OK {
		t.Errorf("Bytes: %q", b)
	}
	back, e := btree.Read(b)
	if e != api.OK || !slices.EqualFunc(back.Nodes, x.Nodes, func(a, b api.Node) bool {
		return slices.Equal(a.Keys, b.Keys) && slices.Equal(a.Recs, b.Recs) && slices.Equal(a.Kids, b.Kids)
	}) {
		t.Error("Read", back, e)
	}
	for i := range b {
		if _, e := btree.Read(b[:i]); e != api.ErrBroken {
			t.Errorf("%d bytes: %d", i, e)
		}
		for _, c := range []byte{0, 1, 2, 3, 200, 255} {
			y := bytes.Clone(b)
			y[i] = c
			if got, e := btree.Read(y); e == api.OK {
				if again, _ := btree.Bytes(got); !bytes.Equal(again, y) {
					t.Errorf("byte %d as %d", i, c)
				}
			}
		}
	}
	if _, e := btree.Read(append(b, 0)); e != api.ErrBroken {
		t.Error("a byte too many")
	}
}

func TestManyGoroutines(t *testing.T) {
	tree := btree.New()
	var wait sync.WaitGroup
	for g := range 8 {
		wait.Go(func() {
			for i := range 100 {
				tree.Put(string(rune('a'+i%26)), g*30+i%30+1)
				tree.Range("b", "d", -1)
				tree.Copy().Take("a", 1)
			}
		})
	}
	wait.Wait()
	if n, _ := btree.Check(tree.Index()); n != 0 {
		t.Error(n)
	}
}
