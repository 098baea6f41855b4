package net_test

import (
	"bytes"
	"fmt"
	"math"
	"math/rand"
	"reflect"
	"slices"
	"strings"
	"sync"
	"testing"

	"cabinetry/api"
	"cabinetry/bag"
	"cabinetry/net"
)

func num(n int) api.Value     { return api.Value{Kind: api.Num, N: n} }
func text(s string) api.Value { return api.Value{Kind: api.Text, S: s} }

func rec(a int) api.Record { return api.Record{V: []api.Value{num(a), num(0), text("x")}} }

func numbers(l ...int) api.Table {
	t := api.Table{Fields: []api.Field{{Name: "A", Kind: api.Num, Width: 4}, {Name: "B", Kind: api.Num, Width: 4, Null: true}, {Name: "C", Kind: api.Text, Width: 3}}}
	for _, n := range l {
		t.Recs = append(t.Recs, rec(n))
	}
	return t
}

var tags = []api.Tag{{Name: "A", Key: "a"}, {Name: "C", Key: "c + str(b, 4)", For: "!deleted()", Down: true, Coll: 1}, {Name: "U", Key: "b", Uniq: 1}}

func make1(t *testing.T, tab api.Table, l ...api.Tag) *net.Net {
	t.Helper()
	n, e := net.New(tab, l)
	if e != api.OK {
		t.Fatal(e)
	}
	return n
}

func is(t *testing.T, got, want api.Errno) {
	t.Helper()
	if got != want {
		t.Errorf("error %d, want %d", got, want)
	}
}

func begin(t *testing.T, n *net.Net, stations ...int) {
	t.Helper()
	for _, u := range stations {
		n.On(u)
		is(t, n.Begin(u), api.OK)
	}
}

func shown(t api.Table) string {
	var out []string
	for _, r := range t.Recs {
		s := fmt.Sprint(r.V[0].N)
		if r.Gone {
			s = "-" + s
		}
		out = append(out, s)
	}
	return strings.Join(out, " ")
}

// P20.1
func TestStates(t *testing.T) {
	_, e1 := net.New(api.Table{Page: 9}, []api.Tag{{Name: "a"}})
	_, e2 := net.New(numbers(0), []api.Tag{{Name: "A", Key: "1 / a"}, {Name: "a"}})
	_, e3 := net.New(numbers(), []api.Tag{{Name: "A", Key: "("}})
	if e1 != api.ErrArg || e2 != api.ErrType || e3 != api.ErrSyntax {
		t.Error(e1, e2, e3)
	}
	n := make1(t, numbers(1, 2), tags...)
	in := func(u int) []api.Errno {
		_, e1 := n.Read(u, 9, "X")
		_, e2 := n.Append(u, api.Record{})
		_, e3 := n.Commit(u)
		return []api.Errno{e1, e2, e3, n.Lock(u, 9, true), n.Write(u, 9, "X", math.MaxInt), n.Mark(u, 9, true), n.Abort(u)}
	}
	for _, c := range []struct {
		u int
		e api.Errno
	}{{-1, api.ErrArg}, {4, api.ErrArg}, {0, api.ErrState}} {
		for i, e := range append(in(c.u), n.Begin(c.u), n.Fall(c.u)) {
			if e != c.e {
				t.Errorf("station %d, method %d: %d", c.u, i, e)
			}
		}
	}
	is(t, n.On(4), api.ErrArg)
	is(t, n.On(0), api.OK)
	is(t, n.On(0), api.ErrState)
	for i, e := range in(0) {
		if e != api.ErrState {
			t.Errorf("no transaction, method %d: %d", i, e)
		}
	}
	is(t, n.Begin(0), api.OK)
	is(t, n.Begin(0), api.ErrState)
	is(t, n.Fall(0), api.OK)
	is(t, n.Fall(0), api.ErrState)
	is(t, n.On(0), api.OK)
	is(t, n.Abort(0), api.ErrState)
	is(t, n.Fall(0), api.OK)
}

func TestReadWrite(t *testing.T) {
	n := make1(t, numbers(5, 7), tags...)
	begin(t, n, 0)
	for i, c := range []struct {
		k     int
		field string
		e     api.Errno
	}{{9, "X", api.ErrNone}, {9, "C", api.ErrType}, {9, "A", api.ErrNone}, {0, "A", api.ErrNone}, {-1, "A", api.ErrNone}, {1, "A", api.ErrRule}} {
		if v, e := n.Read(0, c.k, c.field); v != 0 || e != c.e {
			t.Errorf("Read %d: %d %d", i, v, e)
		}
		if e := n.Write(0, c.k, c.field, 0); e != c.e {
			t.Errorf("Write %d: %d", i, e)
		}
	}
	is(t, n.Lock(0, 1, false), api.OK)
	if v, e := n.Read(0, 1, "A"); v != 5 || e != api.OK {
		t.Error(v, e)
	}
	is(t, n.Write(0, 1, "A", 1), api.ErrRule)
	is(t, n.Mark(0, 1, true), api.ErrRule)
	is(t, n.Mark(0, 9, true), api.ErrNone)
	is(t, n.Lock(0, 1, true), api.OK)
	is(t, n.Lock(0, 1, false), api.OK)
	is(t, n.Write(0, 1, "A", api.MaxNum), api.ErrArg)
	is(t, n.Write(0, 1, "A", math.MaxInt), api.ErrArg)
	is(t, n.Write(0, 1, "A", math.MinInt), api.ErrArg)
	is(t, n.Write(0, 1, "A", 9999), api.ErrFit)
	is(t, n.Write(0, 1, "A", 10), api.OK)
	if v, _ := n.Read(0, 1, "A"); v != 15 {
		t.Error("what the transaction sees", v)
	}
	if shown(n.Table()) != "5 7" {
		t.Error("what others see", shown(n.Table()))
	}
	if k, e := n.Append(0, rec(3)); k != -1 || e != api.OK {
		t.Error(k, e)
	}
	if v, e := n.Read(0, -1, "A"); v != 3 || e != api.OK {
		t.Error(v, e)
	}
	is(t, n.Write(0, -1, "B", 1), api.OK)
	is(t, n.Mark(0, -1, true), api.OK)
	_, e1 := n.Append(0, api.Record{})
	_, e2 := n.Append(0, api.Record{V: []api.Value{num(1), num(1), text("long")}})
	if e1 != api.ErrFit || e2 != api.ErrArg {
		t.Error(e1, e2)
	}
	if l, e := n.Commit(0); !slices.Equal(l, []int{3}) || e != api.OK {
		t.Error(l, e)
	}
	if shown(n.Table()) != "15 7 -3" || n.Table().Recs[2].V[1] != num(4) {
		t.Error(shown(n.Table()))
	}
	begin(t, n, 1)
	is(t, n.Lock(1, 2, true), api.OK)
	is(t, n.Write(1, 2, "A", 1), api.OK) // the register is 0 at the begin
	n.Commit(1)
	if shown(n.Table()) != "15 1 -3" || !slices.Equal(n.Order(), []int{0, 1}) {
		t.Error(shown(n.Table()), n.Order())
	}
}

func TestNilCountsZero(t *testing.T) {
	tab := numbers(5)
	tab.Recs[0].V[1] = api.Value{}
	n := make1(t, tab)
	begin(t, n, 0)
	n.Lock(0, 1, false)
	n.Read(0, 1, "A")
	if v, e := n.Read(0, 1, "B"); v != 0 || e != api.OK {
		t.Error(v, e)
	}
}

func TestTooManyRecords(t *testing.T) {
	n := make1(t, numbers(make([]int, 298)...))
	begin(t, n, 0, 1)
	for i, u := range []int{0, 1, 0, 1} {
		if _, e := n.Append(u, rec(1)); (e == api.OK) != (i < 2) || i >= 2 && e != api.ErrLarge {
			t.Error(i, e)
		}
	}
	n.Abort(0)
	if _, e := n.Append(1, rec(1)); e != api.OK {
		t.Error(e)
	}
}

func TestLocks(t *testing.T) {
	n := make1(t, numbers(1, 2))
	begin(t, n, 0, 1, 2)
	for _, k := range []int{0, 3, -1} {
		is(t, n.Lock(0, k, true), api.ErrNone)
		if _, _, e := n.Locks(k); e != api.ErrNone {
			t.Error(e)
		}
	}
	is(t, n.Lock(0, 1, false), api.OK)
	is(t, n.Lock(1, 1, false), api.OK)
	if l, alone, e := n.Locks(1); !slices.Equal(l, []int{0, 1}) || alone || e != api.OK {
		t.Error(l, alone, e)
	}
	is(t, n.Lock(2, 1, true), api.ErrBusy)
	is(t, n.Lock(1, 1, true), api.ErrBusy)
	is(t, n.Lock(0, 1, true), api.ErrBusy)
	if w := n.Waits(); !reflect.DeepEqual(w, [][2]int{{0, 1}, {1, 0}, {2, 0}, {2, 1}}) {
		t.Error(w)
	}
	if v, ok := n.Victim(); v != 1 || !ok {
		t.Error(v, ok)
	}
	is(t, n.Abort(1), api.OK)
	if w := n.Waits(); !reflect.DeepEqual(w, [][2]int{{2, 0}}) {
		t.Error(w)
	}
	if _, ok := n.Victim(); ok {
		t.Error("no ring")
	}
	is(t, n.Lock(0, 1, true), api.OK)
	is(t, n.Lock(0, 1, false), api.OK)
	if l, alone, _ := n.Locks(1); !slices.Equal(l, []int{0}) || !alone {
		t.Error(l, alone)
	}
	is(t, n.Lock(2, 1, false), api.ErrBusy)
	n.Read(2, 1, "A")
	if w := n.Waits(); len(w) != 0 {
		t.Error("until its next call", w)
	}
}

// P20.2
func TestCommitErrors(t *testing.T) {
	n := make1(t, numbers(1, 2), api.Tag{Name: "U", Key: "a", Uniq: 2}, api.Tag{Name: "D", Key: "10 / a"})
	begin(t, n, 0)
	n.Lock(0, 1, true)
	is(t, n.Write(0, 1, "A", 2), api.OK)
	n.Append(0, rec(5))
	if l, e := n.Commit(0); l != nil || e != api.ErrRule {
		t.Error(l, e)
	}
	is(t, n.Abort(0), api.ErrState)
	if l, _, _ := n.Locks(1); len(l) > 0 || shown(n.Table()) != "1 2" || len(n.Order()) != 0 || n.Writes() != 0 {
		t.Error("it is aborted", l, shown(n.Table()))
	}
	is(t, n.Begin(0), api.OK)
	n.Append(0, rec(7))
	n.Append(0, rec(0))
	if _, e := n.Commit(0); e != api.ErrType || shown(n.Table()) != "1 2" {
		t.Error(e, shown(n.Table()))
	}
	begin(t, n, 0)
	for k := 1; k <= 2; k++ {
		n.Lock(0, k, true)
		is(t, n.Write(0, k, "A", 3-k), api.OK)
	}
	if _, e := n.Commit(0); e != api.OK || shown(n.Table()) != "2 1" {
		t.Error("as at one moment", e, shown(n.Table()))
	}
	begin(t, n, 1)
	if l, e := n.Commit(1); len(l) > 0 || e != api.OK || !slices.Equal(n.Order(), []int{0, 1}) || len(n.Points()) != 1 {
		t.Error("a commit of nothing", e, n.Order(), n.Points())
	}
}

func TestFall(t *testing.T) {
	n := make1(t, numbers(1), tags...)
	begin(t, n, 0)
	n.Lock(0, 1, true)
	n.Write(0, 1, "A", 9)
	is(t, n.Fall(0), api.OK)
	if l, _, _ := n.Locks(1); shown(n.Table()) != "1" || len(l) > 0 {
		t.Error(shown(n.Table()), l)
	}
}

// P20.3
func TestDo(t *testing.T) {
	n := make1(t, numbers(4))
	for i, c := range []struct {
		a    api.Act
		want int
		e    api.Errno
	}{
		{api.Act{Op: 2, A: 1}, 0, api.ErrState}, {api.Act{Op: 0, A: 1}, 0, api.OK}, {api.Act{Op: 2, A: 1}, 0, api.OK}, {api.Act{Op: 3, A: 1, B: 1, C: 7}, 0, api.OK}, {api.Act{Op: 4, A: 1, B: 1, S: "A"}, 4, api.OK}, {api.Act{Op: 5, A: 1, B: 1, S: "A", C: 3}, 0, api.OK}, {api.Act{Op: 6, A: 1}, -1, api.OK},
		{api.Act{Op: 7, A: 1, B: -1, C: 1}, 0, api.OK}, {api.Act{Op: 4, A: 1, B: 9, S: "A"}, 0, api.ErrNone}, {api.Act{Op: 8, A: 1}, 0, api.OK}, {api.Act{Op: 9, A: 1}, 0, api.ErrState}, {api.Act{Op: 1, A: 1}, 0, api.OK}, {api.Act{Op: 10, A: 1}, 0, api.ErrArg}, {api.Act{Op: -1, A: 9}, 0, api.ErrArg}, {api.Act{Op: 0, A: 9}, 0, api.ErrArg},
	} {
		if v, e := n.Do(c.a); v != c.want || e != c.e {
			t.Errorf("Do %d: %d %d", i, v, e)
		}
	}
	if shown(n.Table()) != "7 -0" || !slices.Equal(n.Order(), []int{1}) {
		t.Error(shown(n.Table()))
	}
}

func TestRings(t *testing.T) {
	n := make1(t, numbers(1, 2, 3, 4))
	begin(t, n, 0, 1, 2, 3)
	for u := range 4 {
		is(t, n.Lock(u, u+1, true), api.OK)
	}
	for _, c := range [][2]int{{0, 2}, {1, 3}, {3, 1}} {
		is(t, n.Lock(c[0], c[1], false), api.ErrBusy)
	}
	if _, ok := n.Victim(); ok {
		t.Error("no ring yet")
	}
	is(t, n.Lock(2, 1, false), api.ErrBusy)
	if v, ok := n.Victim(); v != 2 || !ok {
		t.Error("3 waits, but is in no ring", v, ok)
	}
}

// P20.4
func TestAnyFall(t *testing.T) {
	for seed := range 12 {
		r := rand.New(rand.NewSource(int64(seed)))
		n := make1(t, numbers(1, 2, 3), tags...)
		for range 2 {
			committed := []*bag.Bag{n.Bag()}
			for range 4 {
				begin(t, n, 0)
				for range 1 + r.Intn(3) {
					k := 1 + r.Intn(4)
					n.Lock(0, k, true)
					switch r.Intn(4) {
					case 0:
						if len(n.Table().Recs) < 5 {
							n.Append(0, rec(r.Intn(9)))
						}
					case 1:
						n.Mark(0, k, r.Intn(2) == 0)
					default:
						n.Write(0, k, []string{"A", "B"}[r.Intn(2)], r.Intn(9))
					}
				}
				points := len(n.Points())
				if r.Intn(5) == 0 {
					n.Fall(0)
				} else {
					_, e := n.Commit(0)
					is(t, e, api.OK)
				}
				if len(n.Points()) > points {
					committed = append(committed, n.Bag())
				}
			}
			files := checkFalls(t, n, committed, r)
			if t.Failed() {
				t.Fatal("seed", seed)
			}
			next, _, e := net.Open(files)
			is(t, e, api.OK)
			if next.Writes() != 0 || len(next.Points()) != 0 || len(next.Order()) != 0 {
				t.Error("a net that was opened")
			}
			n = next
		}
	}
}

// checkFalls opens the files of each fall and returns those of one of them.
func checkFalls(t *testing.T, n *net.Net, committed []*bag.Bag, r *rand.Rand) [][]byte {
	t.Helper()
	points := n.Points()
	if len(points) != len(committed)-1 || !slices.IsSorted(points) || len(points) > 0 && points[len(points)-1] != n.Writes() {
		t.Fatal("Points", points, n.Writes())
	}
	last := 0
	var kept [][]byte
	falls := 0
	for w := range n.Writes() + 1 {
		full, _ := n.Files(min(w+1, n.Writes()), 0)
		for k := 0; ; k++ {
			files, e := n.Files(w, k)
			is(t, e, api.OK)
			open, anew, e := net.Open(files)
			if e != api.OK || !slices.IsSorted(anew) || len(anew) > 0 && anew[len(anew)-1] >= len(tags) {
				t.Fatal("Open", w, k, e, anew)
			}
			j := 0
			for j < len(points) && points[j] <= w {
				j++
			}
			number := -1
			for _, c := range []int{j, j + 1} {
				if c < len(committed) && c >= last && bag.Same(open.Bag(), committed[c]) {
					number = c
					break
				}
			}
			if number < 0 || w == n.Writes() && (number != len(committed)-1 || w > 0 && len(anew) > 0) {
				t.Fatal("the wrong bag", w, k, number, anew)
			}
			last = number
			falls++
			if r.Intn(falls) == 0 {
				kept = files
			}
			if slices.EqualFunc(files, full, bytes.Equal) {
				break
			}
			if k > 0 && k%5 == 0 { // most places alone
				k += r.Intn(20)
			}
		}
	}
	return kept
}

func TestFilesErrors(t *testing.T) {
	n := make1(t, numbers(1), tags...)
	for _, c := range [][2]int{{-1, 0}, {1, 0}, {0, -1}} {
		if f, e := n.Files(c[0], c[1]); e != api.ErrArg || f != nil {
			t.Error(c, e)
		}
	}
	files, _ := n.Files(0, 5)
	for i, f := range [][][]byte{nil, files[:1], files[:len(files)-1], append(slices.Clone(files), nil), {nil, nil}, {files[1], files[0]}} {
		if o, anew, e := net.Open(f); o != nil || anew != nil || e != api.ErrBroken {
			t.Errorf("Open %d: %d", i, e)
		}
	}
	bad := slices.Clone(files)
	bad[2] = []byte("junk")
	o, anew, e := net.Open(bad)
	if e != api.OK || !slices.Equal(anew, []int{0}) || !bag.Same(o.Bag(), n.Bag()) {
		t.Error(anew, e)
	}
	for i := range files[0] {
		x := slices.Clone(files)
		x[0] = slices.Clone(files[0])
		x[0][i] ^= 0x41
		net.Open(x)
	}
}

// Transactions of several stations are as if they came one behind the other.
func TestOneBehindTheOther(t *testing.T) {
	for seed := range 60 {
		r := rand.New(rand.NewSource(int64(seed)))
		n := make1(t, numbers(10, 20, 30), tags...)
		alone := make1(t, numbers(10, 20, 30), tags...)
		scripts := [4][]api.Act{}
		for u := range 4 {
			n.On(u)
			alone.On(u)
		}
		for range 150 {
			u := r.Intn(4)
			a := api.Act{Op: 2 + r.Intn(8), A: u, B: 1 + r.Intn(3), C: r.Intn(4), S: "A"}
			if a.Op == 6 && r.Intn(4) > 0 {
				continue
			}
			if v, ok := n.Victim(); ok {
				is(t, n.Abort(v), api.OK)
				scripts[v] = nil
			}
			_, e := n.Do(a)
			switch {
			case e != api.OK:
			case a.Op == 2:
				scripts[u] = []api.Act{a}
			case a.Op == 8:
				for _, b := range append(scripts[u], a) {
					if _, e := alone.Do(b); e != api.OK {
						t.Fatal("alone", b, e)
					}
				}
			default:
				scripts[u] = append(scripts[u], a)
			}
			if shown(n.Table()) != shown(alone.Table()) || !slices.Equal(n.Order(), alone.Order()) {
				t.Fatal(seed, shown(n.Table()), shown(alone.Table()))
			}
		}
		if l, e := bag.Check(n.Table(), tags, n.Bag().Indexes()); len(l) > 0 || e != api.OK {
			t.Fatal(l, e)
		}
	}
}

func TestNil(t *testing.T) {
	for _, n := range []*net.Net{nil, {}} {
		_, e1 := n.Read(9, 1, "A")
		_, e2 := n.Append(0, rec(1))
		_, e3 := n.Commit(0)
		_, e4 := n.Do(api.Act{Op: 99})
		_, _, e5 := n.Locks(1)
		_, e6 := n.Files(0, 0)
		for i, e := range []api.Errno{e1, e2, e3, e4, e5, e6, n.On(0), n.Fall(0), n.Begin(0), n.Lock(0, 1, true), n.Write(0, 1, "A", 1), n.Mark(0, 1, true), n.Abort(0)} {
			if e != api.ErrState {
				t.Errorf("method %d of nil: %d", i, e)
			}
		}
		v, ok := n.Victim()
		if n.Table().Fields != nil || n.Bag() != nil || n.Order() != nil || n.Writes() != 0 || n.Points() != nil || n.Waits() != nil || v != 0 || ok {
			t.Error("nil")
		}
	}
}

func TestManyGoroutines(t *testing.T) {
	n := make1(t, numbers(0), tags...)
	var wait sync.WaitGroup
	for u := range 4 {
		wait.Go(func() {
			n.On(u)
			for range 40 {
				n.Begin(u)
				if n.Lock(u, 1, true) == api.OK {
					n.Read(u, 1, "A")
					n.Write(u, 1, "A", 1)
					n.Commit(u)
				} else {
					n.Abort(u)
				}
				n.Waits()
				n.Victim()
				n.Files(n.Writes(), 0)
			}
		})
	}
	wait.Wait()
	if got := n.Table().Recs[0].V[0].N; got != len(n.Order()) {
		t.Error(got, len(n.Order()))
	}
}
