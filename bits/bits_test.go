package bits_test

import (
	"math/rand"
	"reflect"
	"slices"
	"testing"

	"cabinetry/api"
	"cabinetry/bits"
)

func know(sure, may []int) api.Bits { return api.Bits{Sure: sure, May: may} }

func same(a, b api.Bits) bool { return slices.Equal(a.Sure, b.Sure) && slices.Equal(a.May, b.May) }

// P12.1
func TestValidate(t *testing.T) {
	for i, c := range []struct {
		b api.Bits
		e api.Errno
	}{
		{api.Bits{}, api.OK}, {know([]int{1}, []int{1, 300}), api.OK}, {know([]int{1}, []int{2}), api.ErrArg}, {know(nil, []int{0}), api.ErrArg}, {know(nil, []int{301}), api.ErrArg}, {know(nil, []int{1, 1}), api.ErrArg}, {know(nil, []int{2, 1}), api.ErrArg}, {know([]int{2, 1}, []int{1, 2}), api.ErrArg},
	} {
		_, e1 := bits.And(c.b, api.Bits{})
		_, e2 := bits.Or(api.Bits{}, c.b)
		_, e3 := bits.Not(c.b, 300)
		_, e4 := bits.Settle(c.b, nil)
		_, e5 := bits.Doubt(c.b)
		_, e6 := bits.True(c.b, nil)
		for j, e := range []api.Errno{bits.Validate(c.b), e1, e2, e3, e4, e5, e6} {
			if e != c.e {
				t.Errorf("case %d, function %d: %d", i, j, e)
			}
		}
	}
	for _, l := range [][]int{{0}, {301}, {1, 1}, {3, 2}} {
		_, e1 := bits.Known(l)
		_, e2 := bits.Settle(api.Bits{}, l)
		_, e3 := bits.True(api.Bits{}, l)
		_, e4 := bits.Ranges(l)
		_, e5 := bits.Map(l, 300)
		_, e6 := bits.Pack(l)
		_, e7 := bits.Shift(l, nil)
		_, e8 := bits.Shift(nil, l)
		for j, e := range []api.Errno{e1, e2, e3, e4, e5, e6, e7, e8} {
			if e != api.ErrArg {
				t.Errorf("%v, function %d: %d", l, j, e)
			}
		}
	}
	for _, n := range []int{-1, 301} {
		_, e1 := bits.Not(api.Bits{}, n)
		_, e2 := bits.Any(n)
		_, e3 := bits.Map(nil, n)
		_, e4 := bits.Unmap(nil, n)
		if e1 != api.ErrArg || e2 != api.ErrArg || e3 != api.ErrArg || e4 != api.ErrArg {
			t.Error(n, e1, e2, e3, e4)
		}
	}
	_, e1 := bits.Not(know(nil, []int{5}), 4)
	_, e2 := bits.Map([]int{5}, 4)
	if e1 != api.ErrArg || e2 != api.ErrArg {
		t.Error("a number above n", e1, e2)
	}
}

func TestOperations(t *testing.T) {
	a, b := know([]int{1}, []int{1, 2}), know([]int{2}, []int{1, 2, 4})
	x, e1 := bits.And(a, b)
	y, e2 := bits.Or(a, b)
	z, e3 := bits.Not(b, 5)
	if !same(x, know(nil, []int{1, 2})) || !same(y, know([]int{1, 2}, []int{1, 2, 4})) || !same(z, know([]int{3, 5}, []int{1, 3, 4, 5})) || e1 != api.OK || e2 != api.OK || e3 != api.OK {
		t.Error(x, y, z)
	}
	k, _ := bits.Known([]int{2, 3})
	n, _ := bits.Any(3)
	none, _ := bits.Any(0)
	if !same(k, know([]int{2, 3}, []int{2, 3})) || !same(n, know(nil, []int{1, 2, 3})) || !same(none, api.Bits{}) {
		t.Error(k, n, none)
	}
	s, _ := bits.Settle(b, []int{1, 3})
	if !same(s, know([]int{1, 2}, []int{1, 2})) {
		t.Error(s)
	}
	if d, _ := bits.Doubt(b); !slices.Equal(d, []int{1, 4}) {
		t.Error(d)
	}
	for _, c := range []struct {
		l    []int
		want bool
	}{{[]int{2}, true}, {[]int{1, 2, 4}, true}, {[]int{1}, false}, {[]int{2, 3}, false}, {nil, false}} {
		if ok, e := bits.True(b, c.l); ok != c.want || e != api.OK {
			t.Error("True", c.l, ok)
		}
	}
}

// For all knowledge of three records: And, Or and Not know just what follows.
func TestBestKnowledge(t *testing.T) {
	set := func(m int) []int {
		var l []int
		for i := range 3 {
			if m>>i&1 == 1 {
				l = append(l, i+1)
			}
		}
		return l
	}
	tight := func(all []int) api.Bits {
		sure, may := 7, 0
		for _, m := range all {
			sure &= m
			may |= m
		}
		return know(set(sure), set(may))
	}
	for a := range 64 {
		for b := range 64 {
			if a>>3&^(a&7) != 0 || b>>3&^(b&7) != 0 {
				continue
			}
			x, y := know(set(a>>3), set(a&7)), know(set(b>>3), set(b&7))
			var and, or, not []int
			for p := range 8 {
				for q := range 8 {
					okP, _ := bits.True(x, set(p))
					okQ, _ := bits.True(y, set(q))
					if okP && okQ {
						and, or, not = append(and, p&q), append(or, p|q), append(not, 7&^p)
					}
				}
			}
			gotAnd, _ := bits.And(x, y)
			gotOr, _ := bits.Or(x, y)
			gotNot, _ := bits.Not(x, 3)
			if !same(gotAnd, tight(and)) || !same(gotOr, tight(or)) || !same(gotNot, tight(not)) {
				t.Fatal(x, y, gotAnd, gotOr, gotNot)
			}
		}
	}
}

func TestMemory(t *testing.T) {
	l := []int{1, 2}
	k, _ := bits.Known(l)
	k.Sure[0] = 9
	if k.May[0] != 1 || l[0] != 1 {
		t.Error("memory is shared")
	}
}

// P12.2
func TestForms(t *testing.T) {
	for _, c := range []struct {
		l      []int
		ranges [][2]int
		m      []byte
		pack   []byte
	}{
		{nil, nil, []byte{0, 0}, nil}, {[]int{2, 3, 5}, [][2]int{{2, 3}, {5, 5}}, []byte{0x16, 0}, []byte{1, 1, 1, 0}}, {[]int{1, 9, 10}, [][2]int{{1, 1}, {9, 10}}, []byte{1, 3}, []byte{0, 0, 7, 1}},
	} {
		r, e1 := bits.Ranges(c.l)
		m, e2 := bits.Map(c.l, 10)
		p, e3 := bits.Pack(c.l)
		u, e4 := bits.Unmap(c.m, 10)
		v, e5 := bits.Unpack(c.pack)
		if !reflect.DeepEqual(r, c.ranges) || !slices.Equal(m, c.m) || !slices.Equal(p, c.pack) || !slices.Equal(u, c.l) || !slices.Equal(v, c.l) || e1+e2+e3+e4+e5 != api.OK {
			t.Error(c.l, r, m, p, u, v)
		}
	}
	if p, _ := bits.Pack([]int{129, 300}); !slices.Equal(p, []byte{128, 1, 0, 128 + 42, 1, 0}) {
		t.Error("numbers of two bytes", p)
	}
	for _, c := range []struct {
		b []byte
		n int
	}{{nil, 1}, {[]byte{0, 0}, 8}, {[]byte{2}, 1}, {[]byte{0x80}, 7}, {[]byte{0}, 0}} {
		if _, e := bits.Unmap(c.b, c.n); e != api.ErrBroken {
			t.Error("Unmap", c, e)
		}
	}
	for _, b := range [][]byte{{1}, {128}, {0, 128}, {128, 0, 0}, {129, 0, 0}, {0, 0, 0, 0}, {128, 3, 0}, {255, 255, 0}, {128 + 44, 2, 0}, {128 + 43, 2, 1}} {
		if l, e := bits.Unpack(b); e != api.ErrBroken || l != nil {
			t.Error("Unpack", b, l, e)
		}
	}
	if l, e := bits.Unpack([]byte{128 + 43, 2, 0}); !slices.Equal(l, []int{300}) || e != api.OK {
		t.Error("the last record", l, e)
	}
}

func TestFormsOfAny(t *testing.T) {
	r := rand.New(rand.NewSource(12))
	for range 3000 {
		var l []int
		dense := 1 + r.Intn(40)
		for k := 1; k <= 300; k++ {
			if r.Intn(dense) == 0 {
				l = append(l, k)
			}
		}
		p, _ := bits.Pack(l)
		m, _ := bits.Map(l, 300)
		u, e1 := bits.Unpack(p)
		v, e2 := bits.Unmap(m, 300)
		if !slices.Equal(u, l) || !slices.Equal(v, l) || e1 != api.OK || e2 != api.OK {
			t.Fatal(l, e1, e2)
		}
		b := make([]byte, r.Intn(6))
		for i := range b {
			b[i] = byte(r.Intn(3) + 127*r.Intn(2))
		}
		if x, e := bits.Unpack(b); e == api.OK {
			if again, _ := bits.Pack(x); !slices.Equal(again, b) {
				t.Fatal(b, x)
			}
		}
	}
}

// P12.3
func TestShift(t *testing.T) {
	for _, c := range []struct{ l, gone, want []int }{
		{[]int{2, 4, 6}, []int{1, 4}, []int{1, 4}}, {[]int{1, 2}, nil, []int{1, 2}}, {nil, []int{1}, nil}, {[]int{1, 2}, []int{1, 2}, nil}, {[]int{300}, []int{1, 2, 3}, []int{297}}, {[]int{1}, []int{5}, []int{1}},
	} {
		if l, e := bits.Shift(c.l, c.gone); !slices.Equal(l, c.want) || e != api.OK {
			t.Error("Shift", c, l, e)
		}
	}
}
