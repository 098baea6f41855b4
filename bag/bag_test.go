package bag_test

import (
	"cmp"
	"math/rand"
	"reflect"
	"slices"
	"strings"
	"sync"
	"testing"

	"cabinetry/api"
	"cabinetry/bag"
	"cabinetry/expr"
	"cabinetry/key"
	"cabinetry/table"
)

func num(n int) api.Value     { return api.Value{Kind: api.Num, N: n} }
func text(s string) api.Value { return api.Value{Kind: api.Text, S: s} }

var fields = []api.Field{
	{Name: "NAME", Kind: api.Text, Width: 5}, {Name: "AGE", Kind: api.Num, Width: 3, Null: true}, {Name: "NOTE", Kind: api.Memo, Width: 8},
}

func rec(name string, age int) api.Record {
	return api.Record{V: []api.Value{text(name), num(age), num(0)}}
}

func sample(ages ...int) api.Table {
	t := api.Table{Page: 1, Fields: fields}
	for i, a := range ages {
		t.Recs = append(t.Recs, rec(string(rune('a'+i)), a))
	}
	return t
}

func make1(t *testing.T, tab api.Table, tags ...api.Tag) *bag.Bag {
	t.Helper()
	b, e := bag.New(tab)
	if e != api.OK {
		t.Fatal(e)
	}
	for _, g := range tags {
		if e := b.Add(g); e != api.OK {
			t.Fatal("Add", g, e)
		}
	}
	return b
}

func order(t *testing.T, b *bag.Bag, name string, want ...int) {
	t.Helper()
	if l, e := b.Order(name); !slices.Equal(l, want) || e != api.OK {
		t.Errorf("Order %s: %v %d, want %v", name, l, e, want)
	}
}

// P11.1
func TestNewAndAdd(t *testing.T) {
	if b, e := bag.New(api.Table{Page: 3}); b != nil || e != api.ErrArg {
		t.Error("New", e)
	}
	b := make1(t, sample(3, 1, 2, 1), api.Tag{Name: "A", Key: "age"})
	order(t, b, "A", 2, 4, 3, 1)
	order(t, b, "", 1, 2, 3, 4)
	for i, c := range []struct {
		g api.Tag
		e api.Errno
	}{
		{api.Tag{Name: "a", Key: "+"}, api.ErrArg}, {api.Tag{Name: "", Key: "1"}, api.ErrArg}, {api.Tag{Name: "_B", Key: "1"}, api.ErrArg}, {api.Tag{Name: "B", Key: "1", Uniq: 3}, api.ErrArg}, {api.Tag{Name: "B", Key: "1", Uniq: -1}, api.ErrArg}, {api.Tag{Name: "B", Key: "1", Coll: 2}, api.ErrArg},
		{api.Tag{Name: "A", Key: "+"}, api.ErrSyntax}, {api.Tag{Name: "A"}, api.ErrSyntax}, {api.Tag{Name: "A", Key: "1", For: "("}, api.ErrSyntax}, {api.Tag{Name: "A", Key: "x"}, api.ErrTwice},
		{api.Tag{Name: "B", Key: "x"}, api.ErrType}, {api.Tag{Name: "B", Key: "1", For: "x"}, api.ErrType}, {api.Tag{Name: "B", Key: "1 / 0", For: ".f."}, api.OK}, {api.Tag{Name: "C", Key: "1 / 0", For: "age = 3"}, api.ErrType},
		{api.Tag{Name: "C", Key: "age", Uniq: 2}, api.ErrRule}, {api.Tag{Name: "C", Key: "age", Uniq: 2, For: "age > 1"}, api.OK}, {api.Tag{Name: "D", Key: "age", Uniq: 1}, api.OK}, {api.Tag{Name: "E", Key: "age", Down: true}, api.OK}, {api.Tag{Name: "F", Key: "note"}, api.OK},
		{api.Tag{Name: "G", Key: "recno()"}, api.OK}, {api.Tag{Name: "H", Key: "deleted()", For: "5"}, api.OK}, {api.Tag{Name: "I", Key: "x"}, api.ErrLarge}, {api.Tag{Name: "A", Key: "1"}, api.ErrTwice},
	} {
		if e := b.Add(c.g); e != c.e {
			t.Errorf("Add %d: %d, want %d", i, e, c.e)
		}
	}
	order(t, b, "B")
	order(t, b, "C", 3, 1)
	order(t, b, "D", 2, 3, 1)
	order(t, b, "E", 1, 3, 2, 4)
	order(t, b, "H")
	if e := b.Drop("X"); e != api.ErrNone {
		t.Error("Drop", e)
	}
	if e := b.Drop("B"); e != api.OK || len(b.Tags()) != 7 || b.Tags()[1].Name != "C" {
		t.Error("Drop", e, b.Tags())
	}
	if b.Len() != 4 {
		t.Error("Len")
	}
	if r, e := b.Record(2); r.V[1] != num(1) || e != api.OK {
		t.Error("Record", r, e)
	}
	for _, k := range []int{0, -1, 5} {
		if _, e := b.Record(k); e != api.ErrNone {
			t.Error("Record", k, e)
		}
	}
}

// P11.2
func TestUnique(t *testing.T) {
	b := make1(t, sample(5, 3, 5), api.Tag{Name: "U", Key: "age", Uniq: 1})
	order(t, b, "U", 2, 1)
	if e := b.Put(1, rec("x", 9)); e != api.OK {
		t.Fatal(e)
	}
	order(t, b, "U", 2, 3, 1)
	c := make1(t, sample(1, 2), api.Tag{Name: "C", Key: "age", Uniq: 2})
	if e := c.Mark(1, true); e != api.OK {
		t.Fatal(e)
	}
	order(t, c, "C", 2)
	if n, e := c.Append(rec("x", 1)); n != 3 || e != api.OK {
		t.Fatal(e)
	}
	before := c.Copy()
	if e := c.Mark(1, false); e != api.ErrRule || !bag.Same(before, c) {
		t.Error("Mark", e)
	}
	if e := c.PutAll([]int{2, 3}, []api.Record{rec("a", 1), rec("b", 2)}); e != api.OK {
		t.Error("PutAll at one moment", e)
	}
	order(t, c, "C", 2, 3)
	if e := c.PutAll([]int{2, 3}, []api.Record{rec("a", 7), rec("b", 7)}); e != api.ErrRule {
		t.Error("PutAll", e)
	}
}

func TestChangeErrors(t *testing.T) {
	full := sample()
	for range 300 {
		full.Recs = append(full.Recs, rec("a", 1))
	}
	b := make1(t, full, api.Tag{Name: "A", Key: "10 / age"})
	c := make1(t, sample(1, 2), api.Tag{Name: "A", Key: "10 / age"}, api.Tag{Name: "B", Key: "age", Uniq: 2})
	bad, short := rec("toolong", 1), api.Record{}
	before := c.Copy()
	_, e1 := b.Append(rec("a", 0))
	_, e2 := b.Append(bad)
	_, e3 := b.Append(short)
	_, e4 := c.Append(rec("a", 0))
	_, e5 := c.Append(rec("a", 2))
	for i, x := range []struct{ got, want api.Errno }{
		{e1, api.ErrLarge}, {e2, api.ErrArg}, {e3, api.ErrFit}, {e4, api.ErrType}, {e5, api.ErrRule},
		{c.Put(0, bad), api.ErrNone}, {c.Put(3, bad), api.ErrNone}, {c.Put(1, bad), api.ErrArg}, {c.Put(1, short), api.ErrFit}, {c.Put(1, rec("a", 0)), api.ErrType}, {c.Put(1, rec("a", 2)), api.ErrRule},
		{c.PutAll([]int{0}, nil), api.ErrFit}, {c.PutAll([]int{1, 1, 0}, make([]api.Record, 3)), api.ErrNone}, {c.PutAll([]int{1, 1}, make([]api.Record, 2)), api.ErrTwice}, {c.PutAll([]int{1, 2}, []api.Record{bad, short}), api.ErrArg}, {c.PutAll([]int{1, 2}, []api.Record{rec("a", 2), rec("a", 0)}), api.ErrType}, {c.PutAll(nil, nil), api.OK},
		{c.Mark(0, true), api.ErrNone}, {c.Mark(3, true), api.ErrNone}, {c.Modify(nil), api.ErrArg}, {c.Modify(fields[:1]), api.ErrType}, {c.Modify([]api.Field{fields[0], {Name: "AGE", Kind: api.Text, Width: 3}}), api.ErrType},
	} {
		if x.got != x.want {
			t.Errorf("case %d: %d, want %d", i, x.got, x.want)
		}
	}
	if !bag.Same(before, c) {
		t.Error("an error has changed the bag")
	}
}

func TestPackZapModify(t *testing.T) {
	b := make1(t, sample(3, 1, 2), api.Tag{Name: "R", Key: "-recno()"}, api.Tag{Name: "A", Key: "age", Down: true})
	b.Mark(2, true)
	if n, e := b.Pack(); n != 1 || e != api.OK || b.Len() != 2 {
		t.Error("Pack", n, e)
	}
	order(t, b, "R", 2, 1)
	order(t, b, "A", 1, 2)
	if e := b.Modify([]api.Field{{Name: "AGE", Kind: api.Num, Width: 1}}); e != api.OK || len(b.Table().Fields) != 1 {
		t.Error("Modify", e)
	}
	if n := b.Zap(); n != 2 || b.Len() != 0 || len(b.Tags()) != 2 {
		t.Error("Zap", n)
	}
	order(t, b, "R")
	c := make1(t, sample(1, 2, 3), api.Tag{Name: "C", Key: "recno() % 2", Uniq: 2, For: "age > 1"}, api.Tag{Name: "D", Key: "if(recno() = 1 .and. age > 1, 1 / 0, 1)"})
	c.Mark(1, true)
	if _, e := c.Pack(); e != api.ErrType {
		t.Error("Pack", e)
	}
	c.Drop("D")
	if n, e := c.Pack(); n != 1 || e != api.OK {
		t.Error("Pack", e)
	}
	d := make1(t, sample(1, 2, 3, 4), api.Tag{Name: "C", Key: "recno() = 4", Uniq: 2, For: "age > 2"})
	d.Mark(1, true)
	if _, e := d.Pack(); e != api.ErrRule {
		t.Error("Pack", e)
	}
}

// P11.3
func TestReading(t *testing.T) {
	b := make1(t, sample(3, 1, 2), api.Tag{Name: "A", Key: "age", For: "age > 1"}, api.Tag{Name: "N", Key: "if(age = 1, 1 / 0, name)", For: "age > 1", Down: true})
	one, _ := key.Encode(num(1), 1, 0, false)
	two, _ := key.Encode(num(2), 1, 0, false)
	three, _ := key.Encode(num(3), 1, 0, false)
	keys, recs, e := b.Entries("A")
	if !slices.Equal(keys, []string{two, three}) || !slices.Equal(recs, []int{3, 1}) || e != api.OK {
		t.Error("Entries", keys, recs, e)
	}
	if k, e := b.Key("A", 2); k != one || e != api.OK {
		t.Error("Key of a record without an entry", k, e)
	}
	for _, c := range []struct {
		name string
		k    int
		e    api.Errno
	}{{"X", 9, api.ErrNone}, {"", 1, api.ErrNone}, {"N", 9, api.ErrNone}, {"N", 2, api.ErrType}, {"N", 1, api.OK}} {
		if _, e := b.Key(c.name, c.k); e != c.e {
			t.Errorf("Key %s %d: %d", c.name, c.k, e)
		}
	}
	for _, c := range []struct {
		lo  string
		rec int
		ok  bool
	}{{"", 3, true}, {one, 3, true}, {three, 1, true}, {three + "\x00", 0, false}} {
		if k, ok, e := b.First("A", c.lo); k != c.rec || ok != c.ok || e != api.OK {
			t.Errorf("First %q: %d %v", c.lo, k, ok)
		}
	}
	_, _, e1 := b.Entries("")
	_, e2 := b.Order("X")
	_, _, e3 := b.First("", "")
	if e1 != api.ErrNone || e2 != api.ErrNone || e3 != api.ErrNone {
		t.Error(e1, e2, e3)
	}
}

func TestMemory(t *testing.T) {
	tab := sample(1)
	b := make1(t, tab, api.Tag{Name: "A", Key: "age"})
	c := b.Copy()
	tab.Recs[0].V[1] = num(7)
	r, _ := b.Record(1)
	r.V[1] = num(8)
	got := b.Table()
	got.Recs[0].V[1] = num(9)
	got.Fields[0].Name = "X"
	b.Tags()[0].Name = "X"
	if !bag.Same(b, c) || b.Tags()[0].Name != "A" {
		t.Error("memory is shared")
	}
	put := rec("x", 2)
	c.Put(1, put)
	put.V[1] = num(5)
	if r, _ := c.Record(1); r.V[1] != num(2) || bag.Same(b, c) {
		t.Error("an argument is kept")
	}
}

func TestNil(t *testing.T) {
	for _, b := range []*bag.Bag{nil, {}} {
		_, e1 := b.Append(rec("a", 1))
		_, e2 := b.Record(1)
		_, e3 := b.Pack()
		_, _, e4 := b.Entries("A")
		_, e5 := b.Order("")
		_, e6 := b.Key("A", 1)
		_, _, e7 := b.First("A", "")
		for i, e := range []api.Errno{e1, e2, e3, e4, e5, e6, e7, b.Add(api.Tag{}), b.Drop(""), b.Put(1, rec("a", 1)), b.PutAll(nil, nil), b.Mark(1, true), b.Modify(nil)} {
			if e != api.ErrState {
				t.Errorf("method %d of nil: %d", i, e)
			}
		}
		if b.Tags() != nil || b.Table().Fields != nil || b.Len() != 0 || b.Zap() != 0 || b.Indexes() != nil || b.Copy() != nil || !bag.Same(b, nil) || bag.Same(b, make1(t, sample())) {
			t.Error("nil")
		}
	}
}

// P11.4
func TestCheckAndRepair(t *testing.T) {
	tags := []api.Tag{{Name: "A", Key: "age"}, {Name: "B", Key: "name"}, {Name: "C", Key: "age", Uniq: 2}, {Name: "D", Key: "10 / age"}}
	tab := sample(3, 1, 2, 1, 5, 0)
	good := make1(t, tab, tags[:2]...)
	x := append(good.Indexes(), api.Index{}, api.Index{})
	x[0].Nodes[1].Keys[0], _ = good.Key("A", 5)
	x[1] = api.Index{Nodes: []api.Node{{Keys: x[1].Nodes[1].Keys, Recs: x[1].Nodes[1].Recs}}}
	first := x[0].Nodes[1].Recs[0]
	found, e := bag.Check(tab, tags, x)
	if e != api.OK || found[0] != [3]int{0, 0, 7} || found[len(found)-1] != [3]int{3, 3, 0} || found[len(found)-2] != [3]int{2, 3, 0} {
		t.Error("Check", first, found, e)
	}
	if !slices.IsSortedFunc(found, func(a, b [3]int) int { return slices.Compare(a[:], b[:]) }) {
		t.Error("the order of what Check finds", found)
	}
	b, wrong, e := bag.Repair(tab, tags, x)
	if !slices.Equal(wrong, []int{0, 1, 2, 3}) || !bag.Same(b, good) || e != api.OK {
		t.Error("Repair", wrong, e)
	}
	if b, e := bag.Open(tab, tags, x); b != nil || e != api.ErrBroken {
		t.Error("Open", e)
	}
	if b, e := bag.Open(tab, tags[:2], good.Indexes()); !bag.Same(b, good) || e != api.OK {
		t.Error("Open of a bag", e)
	}
	// A wrong key and a wrong number: what is missing, and what should not be.
	two := sample(1, 2)
	good = make1(t, two, tags[0])
	x = good.Indexes()
	x[0].Nodes[0].Keys[1] += "\x00"
	if l, _ := bag.Check(two, tags[:1], x); !reflect.DeepEqual(l, [][3]int{{0, 1, 2}, {0, 2, 2}}) {
		t.Error("a wrong key", l)
	}
	x = good.Indexes()
	x[0].Nodes[0].Recs[1] = 9
	if l, _ := bag.Check(two, tags[:1], x); !reflect.DeepEqual(l, [][3]int{{0, 1, 2}, {0, 2, 9}}) {
		t.Error("a wrong number", l)
	}
}

func TestCheckErrors(t *testing.T) {
	one := make([]api.Index, 1)
	for i, c := range []struct {
		t api.Table
		l []api.Tag
		x []api.Index
		e api.Errno
	}{
		{api.Table{Page: 9}, nil, one, api.ErrArg}, {sample(), nil, one, api.ErrFit}, {sample(), []api.Tag{{Name: "a"}}, one, api.ErrArg}, {sample(), []api.Tag{{Name: "A"}}, one, api.ErrSyntax}, {sample(), []api.Tag{{Name: "A"}, {Name: "a"}}, make([]api.Index, 2), api.ErrArg},
		{sample(), []api.Tag{{Name: "A", Key: "1"}, {Name: "A", Key: "1"}}, make([]api.Index, 2), api.ErrTwice}, {sample(), many(9), make([]api.Index, 9), api.ErrLarge}, {sample(), many(8), make([]api.Index, 8), api.OK}, {sample(1), []api.Tag{{Name: "A", Key: "x"}}, one, api.OK},
	} {
		_, e1 := bag.Check(c.t, c.l, c.x)
		_, _, e2 := bag.Repair(c.t, c.l, c.x)
		_, e3 := bag.Open(c.t, c.l, c.x)
		if e1 != c.e || e2 != c.e || c.e != api.OK && e3 != c.e || c.e == api.OK && e3 != api.ErrBroken {
			t.Errorf("case %d: %d %d %d, want %d", i, e1, e2, e3, c.e)
		}
	}
}

func many(n int) []api.Tag {
	var l []api.Tag
	for i := range n {
		l = append(l, api.Tag{Name: "T" + string(rune('0'+i)), Key: "1"})
	}
	return l
}

// model returns the records of a tag's entries as the chapter says; false: the tag does not hold.
func model(t api.Table, g api.Tag) ([]int, api.Errno) {
	type entry struct {
		key string
		rec int
	}
	var l []entry
	for i, r := range t.Recs {
		e := api.Env{Vals: r.V, Exact: true, Page: t.Page, Rec: i + 1, Gone: r.Gone}
		for _, f := range t.Fields {
			e.Names = append(e.Names, f.Name)
		}
		if g.For != "" {
			v, why, _ := expr.Source(g.For, e)
			if why != 0 {
				return nil, api.ErrType
			}
			if v != (api.Value{Kind: api.Truth, N: 1}) {
				continue
			}
		}
		v, why, _ := expr.Source(g.Key, e)
		if why != 0 {
			return nil, api.ErrType
		}
		k, _ := key.Encode(v, t.Page, g.Coll, g.Down)
		if g.Uniq == 2 && r.Gone || g.Uniq == 1 && slices.ContainsFunc(l, func(e entry) bool { return e.key == k }) {
			continue
		}
		l = append(l, entry{k, i + 1})
	}
	slices.SortFunc(l, func(a, b entry) int { return cmp.Or(strings.Compare(a.key, b.key), cmp.Compare(a.rec, b.rec)) })
	var out []int
	for i, e := range l {
		if g.Uniq == 2 && i > 0 && l[i-1].key == e.key {
			return nil, api.ErrRule
		}
		out = append(out, e.rec)
	}
	return out, api.OK
}

// After each call the tags have just their entries, and a call is refused where they would not hold.
func TestAgainstModel(t *testing.T) {
	tags := []api.Tag{
		{Name: "A", Key: "age"}, {Name: "B", Key: "name", Uniq: 1, Down: true}, {Name: "C", Key: "age", Uniq: 2, For: "age > 6"}, {Name: "D", Key: "10 / (age - 5)", For: "!deleted()"},
		{Name: "E", Key: "recno() % 3", Uniq: 1, For: "age > 2"}, {Name: "F", Key: "name", Coll: 1}, {Name: "G", Key: "deleted()", Uniq: 1},
	}
	for seed := range 20 {
		r := rand.New(rand.NewSource(int64(seed)))
		some := func() api.Record {
			x := rec(string("abAB\xE9"[r.Intn(5)]), r.Intn(10))
			if r.Intn(5) == 0 {
				x.V[1] = api.Value{}
			}
			x.Gone = r.Intn(4) == 0
			return x
		}
		b := make1(t, sample(), tags...)
		for range 60 {
			next := b.Table()
			var e api.Errno
			switch op := r.Intn(10); {
			case op < 4 || len(next.Recs) == 0:
				x := some()
				next.Recs = append(next.Recs, x)
				_, e = b.Append(x)
			case op < 7:
				k, x := r.Intn(len(next.Recs)), some()
				next.Recs[k] = x
				e = b.Put(k+1, x)
			case op < 8:
				k := r.Intn(len(next.Recs))
				next.Recs[k].Gone = !next.Recs[k].Gone
				e = b.Mark(k+1, next.Recs[k].Gone)
			case op < 9:
				perm := r.Perm(len(next.Recs))[:1+r.Intn(len(next.Recs))]
				var ks []int
				var rs []api.Record
				for _, k := range perm {
					next.Recs[k] = some()
					ks, rs = append(ks, k+1), append(rs, next.Recs[k])
				}
				e = b.PutAll(ks, rs)
			default:
				if r.Intn(3) == 0 {
					next.Recs = slices.DeleteFunc(next.Recs, func(r api.Record) bool { return r.Gone })
					_, e = b.Pack()
				}
			}
			want := api.OK
			for _, g := range tags {
				_, we := model(next, g)
				if we == api.ErrType || we == api.ErrRule && want == api.OK {
					want = we
				}
			}
			if e != want {
				t.Fatalf("seed %d: %d, want %d", seed, e, want)
			}
			if e != api.OK {
				continue
			}
			if d, e := table.Differ(next, b.Table()); len(d) > 0 || e != api.OK {
				t.Fatal("the table", d, e)
			}
			for _, g := range tags {
				l, _ := model(next, g)
				got, _ := b.Order(g.Name)
				if !slices.Equal(l, got) {
					t.Fatalf("seed %d: tag %s: %v, want %v", seed, g.Name, got, l)
				}
			}
			if l, e := bag.Check(next, tags, b.Indexes()); len(l) > 0 || e != api.OK {
				t.Fatal("Check", l, e)
			}
		}
	}
}

func TestManyGoroutines(t *testing.T) {
	b := make1(t, sample(), api.Tag{Name: "A", Key: "age"}, api.Tag{Name: "U", Key: "age", Uniq: 1})
	var wait sync.WaitGroup
	for range 6 {
		wait.Go(func() {
			for i := range 30 {
				n, _ := b.Append(rec("a", i))
				b.Mark(n, true)
				b.Entries("A")
				bag.Same(b, b.Copy())
			}
		})
	}
	wait.Wait()
	if l, _ := b.Order("A"); len(l) != 180 {
		t.Error(len(l))
	}
}
