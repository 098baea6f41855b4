package buf_test

import (
	"fmt"
	"math/rand"
	"slices"
	"strings"
	"sync"
	"testing"

	"cabinetry/api"
	"cabinetry/buf"
	"cabinetry/table"
)

func num(n int) api.Value     { return api.Value{Kind: api.Num, N: n} }
func text(s string) api.Value { return api.Value{Kind: api.Text, S: s} }

func numbers(n int) api.Table {
	t := api.Table{Fields: []api.Field{{Name: "A", Kind: api.Num, Width: 4}, {Name: "B", Kind: api.Num, Width: 4, Null: true}, {Name: "C", Kind: api.Text, Width: 3}}}
	for i := range n {
		t.Recs = append(t.Recs, api.Record{V: []api.Value{num(i + 1), num(0), text("x")}})
	}
	return t
}

func desk(t *testing.T, n int, modes ...int) *buf.Desk {
	t.Helper()
	d, e := buf.New(numbers(n))
	if e != api.OK {
		t.Fatal(e)
	}
	for u, m := range modes {
		is(t, d.Mode(u, m), api.OK)
	}
	return d
}

func is(t *testing.T, got, want api.Errno) {
	t.Helper()
	if got != want {
		t.Errorf("error %d, want %d", got, want)
	}
}

func get(t *testing.T, d *buf.Desk, u, k, want int) {
	t.Helper()
	if v, e := d.Get(u, k, "A"); v != num(want) || e != api.OK {
		t.Errorf("user %d sees %v (%d) in record %d, want %d", u, v, e, k, want)
	}
}

func now(t *testing.T, d *buf.Desk, want ...int) {
	t.Helper()
	var got []int
	for _, r := range d.Table().Recs {
		n := r.V[0].N
		if r.Gone {
			n = -n
		}
		got = append(got, n)
	}
	if !slices.Equal(got, want) {
		t.Errorf("the table has %v, want %v", got, want)
	}
}

// P17.1
func TestNewModeGo(t *testing.T) {
	if d, e := buf.New(api.Table{Page: 5}); d != nil || e != api.ErrArg {
		t.Error(e)
	}
	d := desk(t, 3)
	for _, m := range []int{-1, 5} {
		is(t, d.Mode(0, m), api.ErrArg)
	}
	is(t, d.Mode(0, 4), api.OK)
	for _, k := range []int{0, 4, -1} {
		is(t, d.Go(0, k), api.ErrNone)
	}
	is(t, d.Go(0, 2), api.OK)
	is(t, d.Set(0, "A", num(9)), api.OK)
	is(t, d.Mode(0, 2), api.ErrState)
	is(t, d.Go(0, 3), api.OK)
	now(t, d, 1, 2, 3)
	n, e := d.Append(0)
	if n != -1 || e != api.OK {
		t.Error(n, e)
	}
	if n, _ := d.Append(0); n != -2 {
		t.Error(n)
	}
	is(t, d.Go(0, -1), api.OK)
	is(t, d.Go(1, -1), api.ErrNone)
	is(t, d.Set(0, "A", num(7)), api.OK)
	get(t, d, 0, -1, 7)
	if _, e := d.Get(1, -1, "A"); e != api.ErrNone {
		t.Error("another one's record", e)
	}
}

func TestRowsAreStoredByMoves(t *testing.T) {
	for _, mode := range []int{1, 2} {
		d := desk(t, 3, mode, 0)
		is(t, d.Go(0, 2), api.OK)
		is(t, d.Set(0, "A", num(9)), api.OK)
		is(t, d.Go(0, 2), api.OK)
		now(t, d, 1, 2, 3)
		is(t, d.Go(0, 0), api.ErrNone)
		is(t, d.Go(0, 9), api.ErrNone)
		is(t, d.Go(0, -1), api.ErrNone)
		now(t, d, 1, 2, 3)
		is(t, d.Go(0, 1), api.OK)
		now(t, d, 1, 9, 3)
		is(t, d.Mark(0, true), api.OK)
		if n, e := d.Append(0); n != -1 || e != api.OK {
			t.Error(n, e)
		}
		now(t, d, -1, 9, 3)
		is(t, d.Set(0, "A", num(5)), api.OK)
		if n, e := d.Append(0); n != -1 || e != api.OK {
			t.Error("the first one is stored", n, e)
		}
		now(t, d, -1, 9, 3, 5)
		is(t, d.Go(0, 5), api.OK) // the record that is stored first
		now(t, d, -1, 9, 3, 5, 0)
	}
	d := desk(t, 2, 2, 0)
	is(t, d.Go(0, 1), api.OK)
	is(t, d.Set(0, "A", num(5)), api.OK)
	is(t, d.Go(1, 1), api.OK)
	is(t, d.Set(1, "A", num(6)), api.OK)
	is(t, d.Go(0, 2), api.ErrClash)
	is(t, d.Go(0, 9), api.ErrClash)
	if _, e := d.Append(0); e != api.ErrClash {
		t.Error(e)
	}
	get(t, d, 0, 1, 5)
}

func TestTooManyRecords(t *testing.T) {
	d := desk(t, 298, 4, 4, 0)
	for _, c := range []struct {
		u, n int
		e    api.Errno
	}{{0, -1, api.OK}, {1, -1, api.OK}, {1, 0, api.ErrLarge}, {2, 0, api.ErrLarge}} {
		if n, e := d.Append(c.u); n != c.n || e != c.e {
			t.Error(c, n, e)
		}
	}
	d.Revert(0)
	if n, e := d.Append(2); n != 299 || e != api.OK {
		t.Error("at once", n, e)
	}
	if l, e := d.Store(1, false); !slices.Equal(l, []int{300}) || e != api.OK {
		t.Error(l, e)
	}
}

func TestNoUser(t *testing.T) {
	d := desk(t, 1)
	for _, u := range []int{-1, api.MaxUsers} {
		_, e1 := d.Append(u)
		_, e2 := d.Get(u, 9, "X")
		_, e3 := d.Old(u, 9, "X")
		_, e4 := d.Changed(u)
		_, e5 := d.Clashes(u)
		_, e6 := d.Store(u, true)
		_, e7 := d.Revert(u)
		for i, e := range []api.Errno{e1, e2, e3, e4, e5, e6, e7, d.Mode(u, 9), d.Go(u, 9), d.Set(u, "X", num(1)), d.Mark(u, true), d.Fall(u)} {
			if e != api.ErrArg {
				t.Errorf("method %d: %d", i, e)
			}
		}
	}
}

// P17.2
func TestSetAndRead(t *testing.T) {
	d := desk(t, 2, 0, 4)
	is(t, d.Set(0, "X", num(1)), api.ErrState)
	is(t, d.Mark(0, true), api.ErrState)
	is(t, d.Go(0, 1), api.OK)
	is(t, d.Go(1, 1), api.OK)
	for _, c := range []struct {
		field string
		v     api.Value
		e     api.Errno
	}{{"X", text("a"), api.ErrNone}, {"A", text("a"), api.ErrType}, {"A", num(10000), api.ErrFit}, {"A", api.Value{}, api.ErrRule}, {"A", api.Value{N: 1}, api.ErrArg}, {"C", text(strings.Repeat("x", 3000)), api.ErrLarge}, {"C", text("abcd"), api.OK}, {"B", api.Value{}, api.OK}} {
		is(t, d.Set(0, c.field, c.v), c.e)
	}
	if v, _ := d.Now(1, "C"); v != text("abc") {
		t.Error(v)
	}
	is(t, d.Set(1, "A", num(8)), api.OK)
	is(t, d.Set(0, "A", num(5)), api.OK)
	get(t, d, 0, 1, 5)
	get(t, d, 1, 1, 8)
	old, _ := d.Old(1, 1, "A")
	oldOfOther, _ := d.Old(0, 1, "A")
	in, _ := d.Now(1, "A")
	if old != num(1) || oldOfOther != num(5) || in != num(5) {
		t.Error(old, oldOfOther, in)
	}
	d.Append(1)
	d.Set(1, "A", num(3))
	if v, e := d.Old(1, -1, "A"); v != num(0) || e != api.OK {
		t.Error("the old value of an appended record", v, e)
	}
	for _, c := range []struct {
		k     int
		field string
	}{{0, "A"}, {3, "A"}, {-2, "A"}, {1, "X"}, {-1, "X"}} {
		_, e1 := d.Get(1, c.k, c.field)
		_, e2 := d.Old(1, c.k, c.field)
		_, e3 := d.Now(c.k, c.field)
		if e1 != api.ErrNone || e2 != api.ErrNone || e3 != api.ErrNone {
			t.Error(c, e1, e2, e3)
		}
	}
	if _, e := d.Now(-1, "A"); e != api.ErrNone {
		t.Error(e)
	}
}

func TestLocks(t *testing.T) {
	d := desk(t, 3, 1, 1, 0, 4)
	for u := range 4 {
		is(t, d.Go(u, 1), api.OK)
	}
	is(t, d.Set(0, "A", num(5)), api.OK)
	if u, ok, e := d.Locked(1); u != 0 || !ok || e != api.OK {
		t.Error("Locked", u, ok, e)
	}
	is(t, d.Set(1, "B", num(6)), api.ErrBusy)
	is(t, d.Mark(1, true), api.ErrBusy)
	is(t, d.Set(2, "B", num(6)), api.ErrBusy)
	is(t, d.Set(3, "B", num(7)), api.OK)
	if _, e := d.Store(3, true); e != api.ErrBusy {
		t.Error("Store", e)
	}
	if l, _ := d.Changed(3); !slices.Equal(l, []int{1}) {
		t.Error("the buffer stays", l)
	}
	if _, e := d.Store(0, false); e != api.OK {
		t.Error(e)
	}
	if _, ok, _ := d.Locked(1); ok {
		t.Error("the lock goes")
	}
	if _, e := d.Store(3, false); e != api.OK {
		t.Error("another field", e)
	}
	now(t, d, 5, 2, 3)
	is(t, d.Set(1, "A", num(9)), api.OK)
	d.Revert(1)
	if _, ok, _ := d.Locked(1); ok {
		t.Error("the lock goes by Revert")
	}
	for _, k := range []int{0, 4, -1} {
		if _, _, e := d.Locked(k); e != api.ErrNone {
			t.Error(e)
		}
	}
}

// P17.3
func TestStore(t *testing.T) {
	d := desk(t, 4, 4, 4)
	for _, k := range []int{3, 1, 4} {
		d.Go(0, k)
		d.Set(0, "A", num(10*k))
	}
	d.Append(0)
	d.Append(0)
	d.Set(0, "A", num(77))
	d.Go(0, -1)
	if l, e := d.Changed(0); !slices.Equal(l, []int{1, 3, 4, -1, -2}) || e != api.OK {
		t.Error(l, e)
	}
	d.Go(1, 3)
	d.Set(1, "A", num(5))
	d.Go(1, 4)
	d.Set(1, "A", num(40))
	d.Mark(1, true)
	d.Go(1, 1)
	d.Set(1, "B", num(1))
	d.Store(1, false)
	if l, e := d.Clashes(0); !slices.Equal(l, []int{3}) || e != api.OK {
		t.Error(l, e)
	}
	before := d.Copy()
	if l, e := d.Store(0, false); l != nil || e != api.ErrClash || !buf.Same(before, d) {
		t.Error(l, e)
	}
	if l, e := d.Store(0, true); !slices.Equal(l, []int{5, 6}) || e != api.OK {
		t.Error(l, e)
	}
	now(t, d, 10, 2, 30, -40, 0, 77)
	if v, _ := d.Now(1, "B"); v != num(1) {
		t.Error("changes of different fields are both kept", v)
	}
	is(t, d.Set(0, "A", num(6)), api.OK)
	if l, _ := d.Changed(0); !slices.Equal(l, []int{5}) {
		t.Error("the user is at the number that its record has", l)
	}
	if n, e := d.Revert(0); n != 1 || e != api.OK {
		t.Error(n, e)
	}
	if l, e := d.Store(0, false); len(l) > 0 || e != api.OK {
		t.Error(l, e)
	}
}

func TestClashOfMarks(t *testing.T) {
	d := desk(t, 1, 2, 2)
	d.Go(0, 1)
	d.Go(1, 1)
	d.Mark(0, true)
	d.Mark(1, true)
	d.Store(0, false)
	if l, _ := d.Clashes(1); len(l) > 0 {
		t.Error("both want the same")
	}
	if _, e := d.Store(1, false); e != api.OK {
		t.Error(e)
	}
	now(t, d, -1)
}

func TestRevertAndFall(t *testing.T) {
	d := desk(t, 2, 3, 0)
	d.Go(0, 1)
	d.Set(0, "A", num(5))
	d.Append(0)
	if n, e := d.Revert(0); n != 2 || e != api.OK {
		t.Error(n, e)
	}
	is(t, d.Set(0, "A", num(5)), api.ErrState)
	d.Go(0, 2)
	d.Set(0, "A", num(6))
	is(t, d.Fall(0), api.OK)
	now(t, d, 1, 2)
	is(t, d.Set(0, "A", num(5)), api.ErrState)
	is(t, d.Mode(0, 0), api.OK)
	d.Go(0, 2)
	is(t, d.Set(0, "A", num(6)), api.OK)
	now(t, d, 1, 6)
	if l, e := d.Store(0, false); len(l) > 0 || e != api.OK {
		t.Error("mode 0", l, e)
	}
	if n, e := d.Revert(0); n != 0 || e != api.OK {
		t.Error("mode 0", n, e)
	}
	is(t, d.Set(0, "A", num(7)), api.OK)
}

// P17.4: a Store directly behind changes makes the table as mode 0 does.
func TestStoreIsDirect(t *testing.T) {
	for seed := range 100 {
		var tables []string
		for mode := range 5 {
			r := rand.New(rand.NewSource(int64(seed)))
			d := desk(t, 3, mode)
			last := 0
			for range 12 {
				switch n := len(d.Table().Recs); {
				case r.Intn(4) == 0:
					last, _ = d.Append(0)
				default:
					last = 1 + r.Intn(3)
					if n > 0 {
						d.Go(0, last)
					}
				}
				d.Set(0, []string{"A", "B"}[r.Intn(2)], num(r.Intn(9)))
				d.Mark(0, r.Intn(2) == 0)
				if _, e := d.Store(0, false); e != api.OK {
					t.Fatal(e)
				}
			}
			tab := d.Table()
			if table.Validate(tab) != api.OK {
				t.Fatal("no table")
			}
			tables = append(tables, fmt.Sprint(tab))
		}
		if len(slices.Compact(tables)) != 1 {
			t.Fatal("modes differ", seed)
		}
	}
}

func TestCopyAndSame(t *testing.T) {
	d := desk(t, 2, 1)
	for i, change := range []func(d *buf.Desk){
		func(d *buf.Desk) { d.Mode(1, 2) }, func(d *buf.Desk) { d.Go(2, 1) }, func(d *buf.Desk) { d.Go(0, 1); d.Set(0, "A", num(9)); d.Go(0, 1) }, func(d *buf.Desk) { d.Append(0) }, func(d *buf.Desk) { d.Append(3) },
	} {
		c := d.Copy()
		if !buf.Same(c, d) {
			t.Fatal("a copy is equal")
		}
		change(c)
		if buf.Same(c, d) || buf.Same(d, c) {
			t.Errorf("change %d is not seen", i)
		}
	}
	tab := d.Table()
	tab.Recs[0].V[0] = num(99)
	now(t, d, 1, 2)
}

func TestNil(t *testing.T) {
	for _, d := range []*buf.Desk{nil, {}} {
		_, e1 := d.Append(0)
		_, e2 := d.Get(0, 1, "A")
		_, e3 := d.Old(0, 1, "A")
		_, e4 := d.Now(1, "A")
		_, e5 := d.Changed(-1)
		_, e6 := d.Clashes(0)
		_, e7 := d.Store(0, true)
		_, e8 := d.Revert(0)
		_, _, e9 := d.Locked(1)
		for i, e := range []api.Errno{e1, e2, e3, e4, e5, e6, e7, e8, e9, d.Mode(9, 9), d.Go(0, 1), d.Set(0, "A", num(1)), d.Mark(0, true), d.Fall(0)} {
			if e != api.ErrState {
				t.Errorf("method %d of nil: %d", i, e)
			}
		}
		if d.Table().Fields != nil || d.Copy() != nil || !buf.Same(d, nil) || buf.Same(d, desk(t, 1)) {
			t.Error("nil")
		}
	}
}

func TestManyGoroutines(t *testing.T) {
	d := desk(t, 5, 1, 2, 3, 4)
	var wait sync.WaitGroup
	for u := range 4 {
		wait.Go(func() {
			for i := range 40 {
				d.Go(u, 1+i%5)
				d.Set(u, "A", num(i))
				d.Append(u)
				d.Store(u, i%2 == 0)
				buf.Same(d, d.Copy())
				d.Revert(u)
			}
		})
	}
	wait.Wait()
	if table.Validate(d.Table()) != api.OK {
		t.Error("no table")
	}
}
