package link_test

import (
	"math/rand"
	"reflect"
	"slices"
	"strings"
	"testing"

	"cabinetry/api"
	"cabinetry/link"
)

// module makes a module of procedures like "A:10 B C".
func module(name string, overlay int, procs ...string) api.Module {
	m := api.Module{Name: name, Overlay: overlay}
	for i, p := range procs {
		words := strings.Fields(p)
		m.Procs = append(m.Procs, words[0])
		m.Sizes = append(m.Sizes, 10*(i+1))
		m.Calls = append(m.Calls, words[1:])
	}
	return m
}

// P24.1
func TestValidate(t *testing.T) {
	many := strings.Fields("A " + strings.Repeat("A ", 100))
	for i, c := range []struct {
		l []api.Module
		e api.Errno
	}{
		{nil, api.OK}, {[]api.Module{module("M", 0)}, api.OK}, {make([]api.Module, 33), api.ErrLarge}, {[]api.Module{{Procs: make([]string, 101)}}, api.ErrLarge}, {[]api.Module{{Calls: [][]string{many}}}, api.ErrLarge}, {[]api.Module{{Name: "M", Calls: [][]string{many[1:]}}}, api.ErrFit},
		{[]api.Module{module("", 0)}, api.ErrArg}, {[]api.Module{module("_M", 0)}, api.ErrArg}, {[]api.Module{module("m_1", 15, "a")}, api.OK}, {[]api.Module{module("ABCDEFGHIJK", 0)}, api.ErrArg}, {[]api.Module{module("M", 16)}, api.ErrArg}, {[]api.Module{module("M", -1)}, api.ErrArg}, {[]api.Module{module("M", 0, "1A")}, api.ErrArg},
		{[]api.Module{{Name: "M", Procs: []string{"A"}, Sizes: []int{0}, Calls: make([][]string, 1)}}, api.ErrArg}, {[]api.Module{{Name: "M", Procs: []string{"A"}, Sizes: []int{10001}}}, api.ErrArg}, {[]api.Module{{Name: "M", Procs: []string{"A"}, Sizes: []int{1}}}, api.ErrFit}, {[]api.Module{{Name: "M", Procs: []string{"A"}, Calls: make([][]string, 1)}}, api.ErrFit}, {[]api.Module{{Name: "M", Procs: []string{"A"}, Sizes: []int{10000}, Calls: make([][]string, 1)}}, api.OK},
		{[]api.Module{module("M", 0), module("M", 0)}, api.ErrTwice}, {[]api.Module{module("M", 0, "A"), module("N", 0, "A")}, api.ErrTwice}, {[]api.Module{module("M", 0, "A"), module("N", 0, "A"), module("", 0)}, api.ErrArg},
	} {
		_, _, e1 := link.Link(c.l)
		_, e2 := link.Missing(c.l)
		_, _, e3 := link.Sizes(c.l)
		_, e4 := link.Rings(c.l)
		_, _, e5 := link.Order(c.l)
		for j, e := range []api.Errno{link.Validate(c.l), e1, e2, e3, e4, e5} {
			if e != c.e {
				t.Errorf("case %d, function %d: %d, want %d", i, j, e, c.e)
			}
		}
		if c.e == api.OK {
			continue
		}
		_, e6 := link.Reach(c.l, "A")
		_, e7 := link.Trim(c.l, "A")
		_, e8 := link.Loads(c.l, "A", nil)
		_, e9 := link.Worst(c.l, "A", -1)
		_, e10 := link.Move(c.l, "M", -1)
		for j, e := range []api.Errno{e6, e7, e8, e9, e10} {
			if e != c.e {
				t.Errorf("case %d, function %d: %d, want %d", i, j+6, e, c.e)
			}
		}
	}
}

var sample = []api.Module{module("ROOT", 0, "MAIN A B", "LIB"), module("ONE", 1, "A B LIB", "A2"), module("TWO", 2, "B C", "C"), module("ONEMORE", 1, "A3 A3")}

func TestLink(t *testing.T) {
	names, at, e := link.Link(sample)
	if !slices.Equal(names, []string{"MAIN", "LIB", "A", "A2", "B", "C", "A3"}) || !slices.Equal(at, []int{0, 10, 30, 40, 30, 40, 60}) || e != api.OK {
		t.Error(names, at, e)
	}
	if root, room, e := link.Sizes(sample); root != 30 || room != 40 || e != api.OK {
		t.Error(root, room, e)
	}
	lost := []api.Module{module("M", 0, "A X B", "B Y X")}
	if l, e := link.Missing(lost); !slices.Equal(l, []string{"X", "Y"}) || e != api.OK {
		t.Error(l, e)
	}
	_, _, e1 := link.Link(lost)
	_, e2 := link.Reach(lost, "A")
	_, e3 := link.Trim(lost, "A")
	_, e4 := link.Loads(lost, "A", nil)
	_, e5 := link.Worst(lost, "A", 99)
	_, e6 := link.Rings(lost)
	_, _, e7 := link.Order(lost)
	_, e8 := link.Worst(sample, "X", 99)
	_, e9 := link.Loads(sample, "X", []string{""})
	for i, e := range []api.Errno{e1, e2, e3, e4, e5, e6, e7, e8, e9} {
		if e != api.ErrNone {
			t.Errorf("function %d: %d", i, e)
		}
	}
	if _, room, e := link.Sizes(lost); room != 0 || e != api.OK {
		t.Error("no overlays", room, e)
	}
}

// P24.2
func TestReachAndTrim(t *testing.T) {
	if l, e := link.Reach(sample, "A"); !slices.Equal(l, []string{"A", "B", "C", "LIB"}) || e != api.OK {
		t.Error(l, e)
	}
	l, e := link.Trim(sample, "A")
	want := []api.Module{{Name: "ROOT", Procs: []string{"LIB"}, Sizes: []int{20}, Calls: [][]string{nil}}, {Name: "ONE", Overlay: 1, Procs: []string{"A"}, Sizes: []int{10}, Calls: [][]string{{"B", "LIB"}}}, sample[2]}
	if !link.Same(l, want) || e != api.OK {
		t.Error(l, e)
	}
	l[2].Calls[0][0] = "CHANGED"
	if sample[2].Calls[0][0] != "C" {
		t.Error("memory is shared")
	}
}

func TestLoads(t *testing.T) {
	for _, c := range []struct {
		from, walk string
		want       int
		e          api.Errno
	}{
		{"MAIN", "", 0, api.OK}, {"A", "", 1, api.OK}, {"A", "B <", 3, api.OK}, {"MAIN", "A LIB < <", 1, api.OK}, {"MAIN", "A B C < < < A", 3, api.OK}, {"MAIN", "A < B < A", 3, api.OK}, {"A3", "A3 A3 < <", 1, api.OK},
		{"MAIN", "<", 0, api.ErrRule}, {"MAIN", "C", 0, api.ErrRule}, {"MAIN", "A < <", 0, api.ErrRule}, {"MAIN", "X", 0, api.ErrRule}, {"A3", strings.Repeat("A3 ", 1000), 1, api.OK}, {"A3", strings.Repeat("A3 ", 1001), 0, api.ErrLarge}, {"A3", strings.Repeat("A3 ", 1001) + "X", 0, api.ErrRule},
	} {
		walk := strings.Fields(c.walk)
		for i := range walk {
			walk[i] = strings.ReplaceAll(walk[i], "<", "")
		}
		if n, e := link.Loads(sample, c.from, walk); n != c.want || e != c.e {
			t.Errorf("Loads %s %.20s: %d %d", c.from, c.walk, n, e)
		}
	}
}

// worst goes through all walks.
func worst(l []api.Module, calls map[string][]string, from string, walk []string, n int) int {
	best, _ := link.Loads(l, from, walk)
	if n == 0 {
		return best
	}
	stack := []string{from}
	for _, w := range walk {
		if w == "" {
			stack = stack[:len(stack)-1]
		} else {
			stack = append(stack, w)
		}
	}
	next := slices.Clone(calls[stack[len(stack)-1]])
	if len(stack) > 1 {
		next = append(next, "")
	}
	for _, w := range next {
		best = max(best, worst(l, calls, from, append(slices.Clone(walk), w), n-1))
	}
	return best
}

func TestWorst(t *testing.T) {
	for seed := range 60 {
		r := rand.New(rand.NewSource(int64(seed)))
		var l []api.Module
		calls := map[string][]string{}
		names := strings.Fields("A B C D E")
		for i, name := range names {
			m := api.Module{Name: name, Overlay: r.Intn(4), Procs: []string{name}, Sizes: []int{1}, Calls: make([][]string, 1)}
			for range r.Intn(3) {
				m.Calls[0] = append(m.Calls[0], names[r.Intn(len(names))])
			}
			calls[names[i]] = m.Calls[0]
			l = append(l, m)
		}
		for n := range 6 {
			if got, e := link.Worst(l, "A", n); got != worst(l, calls, "A", nil, n) || e != api.OK {
				t.Fatal(seed, n, got, e)
			}
		}
	}
	for n, want := range map[int]api.Errno{-1: api.ErrArg, 13: api.ErrArg, 12: api.OK} {
		if _, e := link.Worst(sample, "MAIN", n); e != want {
			t.Error(n, e)
		}
	}
	if n, _ := link.Worst(sample, "LIB", 12); n != 0 {
		t.Error("without calls in the root", n)
	}
	// The most procedures, each calling all.
	var names []string
	for i := range 100 {
		names = append(names, "P"+string(rune('A'+i/26))+string(rune('A'+i%26)))
	}
	var big []api.Module
	for i := range 20 {
		m := api.Module{Name: names[i], Overlay: i % 16}
		for _, p := range names[5*i : 5*i+5] {
			m.Procs, m.Sizes, m.Calls = append(m.Procs, p), append(m.Sizes, 1), append(m.Calls, names)
		}
		big = append(big, m)
	}
	if n, e := link.Worst(big, names[5], 12); n != 13 || e != api.OK {
		t.Error(n, e)
	}
}

func TestRingsAndOrder(t *testing.T) {
	l := []api.Module{module("M", 0, "Z Y", "Y X Y", "X Z", "B B", "A X", "C"), module("N", 1, "E D", "D E")}
	rings, e := link.Rings(l)
	if !reflect.DeepEqual(rings, [][]string{{"B"}, {"D", "E"}, {"X", "Y", "Z"}}) || e != api.OK {
		t.Error(rings, e)
	}
	if o, ok, e := link.Order(l); o != nil || ok || e != api.OK {
		t.Error(o, ok, e)
	}
	straight := []api.Module{module("M", 0, "A C", "B", "C B D", "D"), module("N", 1, "AA")}
	if o, ok, e := link.Order(straight); !slices.Equal(o, []string{"AA", "B", "D", "C", "A"}) || !ok || e != api.OK {
		t.Error(o, ok, e)
	}
	if rings, _ := link.Rings(straight); len(rings) != 0 {
		t.Error(rings)
	}
	if o, ok, _ := link.Order(nil); len(o) != 0 || !ok {
		t.Error(o, ok)
	}
}

func TestMoveAndSame(t *testing.T) {
	l, e := link.Move(sample, "TWO", 0)
	if e != api.OK || l[2].Overlay != 0 || sample[2].Overlay != 2 || link.Same(l, sample) {
		t.Error(e)
	}
	for i, c := range []struct {
		name    string
		overlay int
		e       api.Errno
	}{{"X", 16, api.ErrArg}, {"X", -1, api.ErrArg}, {"X", 0, api.ErrNone}, {"ONE", 15, api.OK}} {
		if _, e := link.Move(sample, c.name, c.overlay); e != c.e {
			t.Errorf("Move %d: %d", i, e)
		}
	}
	if !link.Same(nil, []api.Module{}) || !link.Same([]api.Module{{Calls: [][]string{nil}}}, []api.Module{{Calls: [][]string{{}}}}) || link.Same(sample, sample[:1]) {
		t.Error("Same")
	}
}

// Overlays change what is loaded, and nothing else.
func TestOverlays(t *testing.T) {
	flat := slices.Clone(sample)
	one := slices.Clone(sample)
	for i := range flat {
		flat[i].Overlay = 0
		one[i].Overlay = min(one[i].Overlay, 1)
	}
	walk := strings.Split("A B C    B ", " ")
	a, _ := link.Loads(flat, "MAIN", walk)
	b, _ := link.Loads(one, "MAIN", walk)
	x, _ := link.Reach(flat, "A")
	y, _ := link.Reach(sample, "A")
	if a != 0 || b != 1 || !slices.Equal(x, y) {
		t.Error(a, b, x, y)
	}
}
