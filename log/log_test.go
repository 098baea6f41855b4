package log_test

import (
	"bytes"
	"fmt"
	"math/rand"
	"slices"
	"strings"
	"sync"
	"testing"

	"cabinetry/api"
	"cabinetry/log"
)

func num(n int) api.Value     { return api.Value{Kind: api.Num, N: n} }
func text(s string) api.Value { return api.Value{Kind: api.Text, S: s} }

func rec(a int, c string) api.Record { return api.Record{V: []api.Value{num(a), text(c)}} }

func numbers(l ...int) api.Table {
	t := api.Table{Page: 1, Fields: []api.Field{{Name: "A", Kind: api.Num, Width: 4}, {Name: "C", Kind: api.Text, Width: 3, Null: true}}}
	for _, n := range l {
		t.Recs = append(t.Recs, rec(n, "x"))
	}
	return t
}

func store(t *testing.T, l ...int) *log.Store {
	t.Helper()
	s, e := log.New(numbers(l...))
	if e != api.OK {
		t.Fatal(e)
	}
	return s
}

func is(t *testing.T, got, want api.Errno) {
	t.Helper()
	if got != want {
		t.Errorf("error %d, want %d", got, want)
	}
}

// shown is the field A of each record; a gone one is negative.
func shown(t api.Table) string {
	var out []string
	for _, r := range t.Recs {
		s := fmt.Sprint(r.V[0].N)
		if r.Gone {
			s = "-" + s
		}
		out = append(out, s)
	}
	return strings.Join(out, " ")
}

func has(t *testing.T, s *log.Store, now string, committed ...string) {
	t.Helper()
	if got := shown(s.Table()); got != now {
		t.Errorf("the table is %s, want %s", got, now)
	}
	var l []string
	for n := range s.Commits() + 1 {
		tab, e := s.Committed(n)
		is(t, e, api.OK)
		l = append(l, shown(tab))
	}
	if !slices.Equal(l, committed) {
		t.Errorf("committed are %v, want %v", l, committed)
	}
}

// P18.1
func TestTransactions(t *testing.T) {
	if s, e := log.New(api.Table{}); s != nil || e != api.ErrArg {
		t.Error(e)
	}
	s := store(t, 1, 2)
	is(t, s.End(), api.ErrState)
	is(t, s.Back(), api.ErrState)
	is(t, s.Begin(), api.OK)
	is(t, s.Put(1, rec(5, "a")), api.OK)
	is(t, s.Begin(), api.OK)
	is(t, s.Put(2, rec(6, "b")), api.OK)
	if s.Level() != 2 || !slices.Equal(s.Differ(), []int{1, 2}) {
		t.Error(s.Level(), s.Differ())
	}
	is(t, s.Back(), api.OK)
	is(t, s.End(), api.OK)
	has(t, s, "5 2", "1 2", "5 2")
	is(t, s.Begin(), api.OK)
	n, e := s.Append(rec(7, "c"))
	if n != 3 || e != api.OK {
		t.Error(n, e)
	}
	is(t, s.Begin(), api.OK)
	is(t, s.Mark(1, true), api.OK)
	is(t, s.End(), api.OK)
	has(t, s, "-5 2 7", "1 2", "5 2")
	is(t, s.Back(), api.OK)
	has(t, s, "5 2", "1 2", "5 2")
	if n, _ := s.Append(rec(8, "c")); n != 3 {
		t.Error("numbers are free again", n)
	}
	is(t, s.Set(1, "A", num(5)), api.OK)
	is(t, s.Begin(), api.OK)
	is(t, s.Set(1, "A", num(9)), api.OK)
	is(t, s.Set(1, "A", num(5)), api.OK)
	is(t, s.End(), api.OK)
	has(t, s, "5 2 8", "1 2", "5 2", "5 2 8")
	for i := range 9 {
		if e := s.Begin(); (e == api.OK) != (i < 8) || i == 8 && e != api.ErrLarge {
			t.Error("Begin", i, e)
		}
	}
}

func TestChangeErrors(t *testing.T) {
	s := store(t, 1)
	for i, c := range []struct{ got, want api.Errno }{
		{s.Put(0, api.Record{}), api.ErrNone}, {s.Put(2, api.Record{}), api.ErrNone}, {s.Put(1, api.Record{}), api.ErrFit}, {s.Put(1, rec(1, "long")), api.ErrArg}, {s.Mark(0, true), api.ErrNone}, {s.Mark(2, true), api.ErrNone},
		{s.Set(2, "A", text("x")), api.ErrNone}, {s.Set(1, "X", text("x")), api.ErrNone}, {s.Set(1, "A", text("x")), api.ErrType}, {s.Set(1, "A", num(99999)), api.ErrFit}, {s.Set(1, "A", api.Value{}), api.ErrRule}, {s.Set(1, "C", api.Value{}), api.OK}, {s.Set(1, "C", text("ab ")), api.OK},
	} {
		if c.got != c.want {
			t.Errorf("case %d: %d, want %d", i, c.got, c.want)
		}
	}
	full := store(t, make([]int, 300)...)
	_, e1 := full.Append(api.Record{})
	_, e2 := s.Append(api.Record{})
	_, e3 := s.Append(rec(1, "long"))
	if e1 != api.ErrLarge || e2 != api.ErrFit || e3 != api.ErrArg {
		t.Error(e1, e2, e3)
	}
}

// P18.2
func TestFilesErrors(t *testing.T) {
	s := store(t, 1)
	s.Mark(1, true)
	for _, c := range [][2]int{{-1, 0}, {s.Writes() + 1, 0}, {0, -1}} {
		if d, l, e := s.Files(c[0], c[1]); e != api.ErrArg || d != nil || l != nil {
			t.Error(c, e)
		}
	}
	for _, n := range []int{-1, 2} {
		if _, e := s.Committed(n); e != api.ErrArg {
			t.Error(n, e)
		}
	}
	a, b, _ := s.Files(0, 1<<40)
	c, d, _ := s.Files(1, 0)
	if !bytes.Equal(a, c) || !bytes.Equal(b, d) {
		t.Error("beyond the end: all of it")
	}
	is(t, s.Begin(), api.OK)
	is(t, s.Clean(), api.ErrState)
	is(t, s.End(), api.OK)
	is(t, s.Clean(), api.OK)
	has(t, s, "-1", "1", "-1")
}

func TestPoints(t *testing.T) {
	s := store(t, 1, 2)
	s.Mark(1, true)
	s.Begin()
	s.Mark(2, true)
	s.Mark(1, false)
	s.End()
	s.Clean()
	s.Append(rec(5, "a"))
	l := s.Points()
	if len(l) != 3 || !slices.IsSorted(l) || l[0] < 1 || l[2] != s.Writes() || s.Commits() != 3 {
		t.Error(l, s.Writes())
	}
	l[0] = 99
	if s.Points()[0] == 99 {
		t.Error("memory is shared")
	}
}

// act does something by chance.
func act(s *log.Store, r *rand.Rand) {
	n := len(s.Table().Recs)
	switch r.Intn(12) {
	case 0, 1:
		if n < 6 {
			s.Append(rec(r.Intn(90), "ab"))
		}
	case 2, 3:
		s.Put(1+r.Intn(6), rec(r.Intn(90), "\xE9"))
	case 4:
		s.Mark(1+r.Intn(6), r.Intn(2) == 0)
	case 5, 6:
		s.Set(1+r.Intn(6), "A", num(r.Intn(90)))
	case 7:
		s.Begin()
	case 8:
		s.End()
	case 9:
		s.Back()
	case 10:
		s.Clean()
	default:
		s.Set(1, "C", api.Value{})
	}
}

// P18.3: after any fall the next opening has what was committed, in falls of what was opened too.
func TestAnyFall(t *testing.T) {
	for seed := range 12 {
		r := rand.New(rand.NewSource(int64(seed)))
		s := store(t, 1, 2, 3)
		for round := range 3 {
			for range 14 {
				act(s, r)
			}
			d, l := checkFalls(t, s, r)
			if t.Failed() {
				t.Fatal("seed", seed, "round", round)
			}
			next, e := log.Open(d, l)
			is(t, e, api.OK)
			s = next
		}
	}
}

// checkFalls opens the files of each fall and returns those of one of them.
func checkFalls(t *testing.T, s *log.Store, r *rand.Rand) ([]byte, []byte) {
	t.Helper()
	points := s.Points()
	last := 0
	var keptD, keptL []byte
	falls := 0
	for n := range s.Writes() + 1 {
		for k := 0; ; k++ {
			d, l, e := s.Files(n, k)
			is(t, e, api.OK)
			open, e := log.Open(d, l)
			if e != api.OK {
				t.Fatal("Open", n, k, e)
			}
			j := 0
			for j < len(points) && points[j] <= n {
				j++
			}
			number := -1
			for _, c := range []int{j, j + 1} {
				if tab, e := s.Committed(c); e == api.OK && fmt.Sprint(tab) == fmt.Sprint(open.Table()) && c >= last {
					number = c
					break
				}
			}
			if number < 0 || n == s.Writes() && number != s.Commits() {
				t.Fatalf("%d, %d: %s, number %d of %d", n, k, shown(open.Table()), number, s.Commits())
			}
			last = number
			steps, e := log.Steps(d, l)
			if e != api.OK || !bytes.Equal(steps[0][0], d) || !bytes.Equal(steps[0][1], l) {
				t.Fatal("Steps", e)
			}
			for _, f := range steps {
				if again, e := log.Open(f[0], f[1]); e != api.OK || fmt.Sprint(again.Table()) != fmt.Sprint(open.Table()) {
					t.Fatal("a fall in the recovery", e)
				}
			}
			if end := steps[len(steps)-1]; len(must(log.Steps(end[0], end[1]))) != 1 {
				t.Fatal("the recovery does not end")
			}
			falls++
			if r.Intn(falls) == 0 {
				keptD, keptL = d, l
			}
			fullD, fullL, _ := s.Files(min(n+1, s.Writes()), 0)
			if bytes.Equal(d, fullD) && bytes.Equal(l, fullL) {
				break
			}
		}
	}
	return keptD, keptL
}

func must(l [][2][]byte, e api.Errno) [][2][]byte {
	if e != api.OK {
		panic(e)
	}
	return l
}

func TestOpenIsTheSame(t *testing.T) {
	s := store(t, 1, 2)
	s.Mark(1, true)
	d, l, _ := s.Files(s.Writes(), 0)
	o, e := log.Open(d, l)
	is(t, e, api.OK)
	has(t, o, "-1 2", "-1 2")
	if o.Writes() != 0 || len(o.Points()) != 0 || o.Level() != 0 {
		t.Error("a store that was opened")
	}
	d2, l2, _ := o.Files(0, 0)
	if !bytes.Equal(d, d2) || !bytes.Equal(l, l2) {
		t.Error("the files with 0, 0")
	}
	d[0], d2[1] = 'x', 'x'
	if d3, _, _ := o.Files(0, 0); d3[0] == 'x' || d3[1] == 'x' {
		t.Error("memory is shared")
	}
}

func TestBroken(t *testing.T) {
	s := store(t, 1, 2)
	s.Set(1, "A", num(77))
	s.Append(rec(5, "a"))
	d, l, _ := s.Files(s.Writes(), 0)
	for _, f := range [][2][]byte{{nil, nil}, {nil, l}, {[]byte("junk"), nil}, {d[:len(d)-1], nil}, {append(bytes.Clone(d), 0), nil}} {
		if o, e := log.Open(f[0], f[1]); o != nil || e != api.ErrBroken {
			t.Error(e)
		}
		if _, e := log.Steps(f[0], f[1]); e != api.ErrBroken {
			t.Error(e)
		}
	}
	// What was altered is found, or a right table comes of it.
	for i := range d {
		x := bytes.Clone(d)
		x[i] ^= 0x55
		if o, e := log.Open(x, l); e == api.OK && len(o.Table().Fields) == 0 {
			t.Error("byte", i)
		}
	}
	for i := range l {
		x := bytes.Clone(l)
		x[i] ^= 0x55
		if o, e := log.Open(d, x); e == api.OK && len(o.Table().Fields) == 0 {
			t.Error("byte", i)
		}
	}
}

func TestNil(t *testing.T) {
	for _, s := range []*log.Store{nil, {}} {
		_, e1 := s.Append(rec(1, ""))
		_, e2 := s.Committed(0)
		_, _, e3 := s.Files(0, 0)
		for i, e := range []api.Errno{e1, e2, e3, s.Begin(), s.End(), s.Back(), s.Put(1, rec(1, "")), s.Mark(1, true), s.Set(1, "A", num(1)), s.Clean()} {
			if e != api.ErrState {
				t.Errorf("method %d of nil: %d", i, e)
			}
		}
		if s.Level()+s.Commits()+s.Writes() != 0 || s.Points() != nil || s.Differ() != nil || s.Table().Fields != nil {
			t.Error("nil")
		}
	}
}

func TestMemory(t *testing.T) {
	tab := numbers(1)
	s, _ := log.New(tab)
	tab.Recs[0].V[0] = num(9)
	r := rec(2, "a")
	s.Append(r)
	r.V[0] = num(9)
	got := s.Table()
	got.Recs[0].V[0] = num(9)
	c, _ := s.Committed(1)
	c.Recs[0].V[0] = num(9)
	has(t, s, "1 2", "1", "1 2")
}

func TestManyGoroutines(t *testing.T) {
	s := store(t, 1)
	var wait sync.WaitGroup
	for range 6 {
		wait.Go(func() {
			for i := range 30 {
				s.Append(rec(i, "a"))
				s.Begin()
				s.Mark(1, i%2 == 0)
				s.End()
				s.Files(s.Writes(), 0)
				s.Clean()
			}
		})
	}
	wait.Wait()
	for s.Level() > 0 {
		s.End()
	}
	d, l, _ := s.Files(s.Writes(), 0)
	o, e := log.Open(d, l)
	if e != api.OK || fmt.Sprint(o.Table()) != fmt.Sprint(s.Table()) {
		t.Error(e)
	}
}
