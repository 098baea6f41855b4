package memo_test

import (
	"bytes"
	"math/rand"
	"reflect"
	"slices"
	"strings"
	"sync"
	"testing"

	"cabinetry/api"
	"cabinetry/memo"
)

func make16(t *testing.T) *memo.Memo {
	t.Helper()
	m, e := memo.New(16)
	if e != api.OK {
		t.Fatal(e)
	}
	return m
}

func put(t *testing.T, m *memo.Memo, n, want int) {
	t.Helper()
	if b, e := m.Put(strings.Repeat("x", n)); b != want || e != api.OK {
		t.Fatalf("Put of %d bytes: block %d, error %d; want %d", n, b, e, want)
	}
}

// P4.1
func TestNew(t *testing.T) {
	for _, size := range []int{0, -16, 8, 17, 24, 272, 15, 257} {
		if m, e := memo.New(size); m != nil || e != api.ErrArg {
			t.Errorf("New %d: %d", size, e)
		}
	}
	for _, size := range []int{16, 32, 256} {
		m, e := memo.New(size)
		want := make([]byte, size)
		copy(want, []byte{1, 0, 0, 0, byte(size), byte(size >> 8)})
		if e != api.OK || !bytes.Equal(m.Bytes(), want) {
			t.Errorf("New %d: %v", size, m.Bytes())
		}
		if s, n := m.Size(); s != size || n != 1 {
			t.Error("Size", s, n)
		}
	}
}

func TestNeeds(t *testing.T) {
	for _, c := range []struct {
		size, n, want int
		e             api.Errno
	}{
		{16, 0, 1, api.OK}, {16, 4, 1, api.OK}, {16, 5, 2, api.OK}, {256, 244, 1, api.OK}, {256, 245, 2, api.OK}, {16, 2048, 129, api.OK},
		{16, -1, 0, api.ErrArg}, {16, 2049, 0, api.ErrArg}, {20, 1, 0, api.ErrArg},
	} {
		if n, e := memo.Needs(c.size, c.n); n != c.want || e != c.e {
			t.Errorf("Needs %d %d: %d %d", c.size, c.n, n, e)
		}
	}
}

func TestBytesAndOpen(t *testing.T) {
	m := make16(t)
	put(t, m, 3, 1)
	put(t, m, 5, 2)
	put(t, m, 0, 4)
	m.Free(1)
	b := m.Bytes()
	want := "\x05\x00\x00\x00\x10\x00" + strings.Repeat("\x00", 10) + "\x00\x00\x00\x00\x01" + strings.Repeat("\x00", 11) +
		"\x01\x00\x00\x00\x02\x00\x00\x00\x05\x00\x00\x00xxxxx" + strings.Repeat("\x00", 15) + "\x01\x00\x00\x00\x01" + strings.Repeat("\x00", 11)
	if string(b) != want {
		t.Errorf("Bytes: %q", b)
	}
	back, e := memo.Open(b)
	if e != api.OK || !memo.Same(m, back) || !reflect.DeepEqual(m.Entries(), back.Entries()) {
		t.Error("Open of Bytes", e)
	}
	for i := range b {
		for _, c := range []byte{0, 1, 2, 3, 4, 5, 16, 32, 255} {
			x := bytes.Clone(b)
			x[i] = c
			if got, e := memo.Open(x); e == api.OK && !bytes.Equal(got.Bytes(), x) || e != api.OK && (e != api.ErrBroken || got != nil) {
				t.Errorf("byte %d as %d: %d", i, c, e)
			}
		}
		if _, e := memo.Open(b[:i]); e != api.ErrBroken {
			t.Errorf("%d bytes: %d", i, e)
		}
	}
}

func TestOpenBroken(t *testing.T) {
	header := func(n byte) string { return string([]byte{n, 0, 0, 0, 16, 0}) + strings.Repeat("\x00", 10) }
	free := "\x00\x00\x00\x00\x01" + strings.Repeat("\x00", 11)
	one := "\x01\x00\x00\x00\x01\x00\x00\x00\x01\x00\x00\x00a\x00\x00\x00"
	for what, s := range map[string]string{
		"the last is free": header(2) + free, "two are free": header(4) + free + free + one, "empty": "", "more blocks": header(1) + one,
		"not all blocks": header(3) + one, "a text of too many blocks": header(3) + "\x01\x00\x00\x00\x02" + one[5:] + strings.Repeat("\x00", 16), "no blocks": header(2) + "\x01\x00\x00\x00\x00" + one[5:],
		"another kind": header(2) + "\x02" + one[1:], "header not 0": header(1)[:15] + "\x01", "behind the text": header(2) + one[:15] + "\x01",
		"free with bytes": header(3) + free[:9] + "\x01" + free[10:] + one,
	} {
		if _, e := memo.Open([]byte(s)); e != api.ErrBroken {
			t.Errorf("%s: %d", what, e)
		}
	}
	if _, e := memo.Open([]byte(header(3) + free + one)); e != api.OK {
		t.Error("a right one", e)
	}
}

// P4.2
func TestPutFreeReplace(t *testing.T) {
	m := make16(t)
	put(t, m, 20, 1)
	put(t, m, 4, 3)
	if e := m.Free(1); e != api.OK {
		t.Fatal(e)
	}
	put(t, m, 1, 1)
	if want := [][3]int{{1, 1, 1}, {2, 1, -1}, {3, 1, 4}}; !reflect.DeepEqual(m.Entries(), want) {
		t.Error(m.Entries())
	}
	put(t, m, 5, 4)
	put(t, m, 4, 2)
	if s, e := m.Get(4); s != "xxxxx" || e != api.OK {
		t.Error("Get", s, e)
	}
	for _, block := range []int{0, -1, 5, 6, 99} {
		_, e1 := m.Get(block)
		_, e2 := m.Replace(block, strings.Repeat("x", 3000))
		if e1 != api.ErrNone || e2 != api.ErrNone || m.Free(block) != api.ErrNone {
			t.Errorf("block %d: %d %d", block, e1, e2)
		}
	}
	if _, e := m.Put(strings.Repeat("x", 2049)); e != api.ErrLarge {
		t.Error("a long text", e)
	}
	if _, e := m.Replace(1, strings.Repeat("x", 2049)); e != api.ErrLarge {
		t.Error("a long text", e)
	}
	m.Free(1)
	m.Free(3)
	m.Free(2)
	if want := [][3]int{{1, 3, -1}, {4, 2, 5}}; !reflect.DeepEqual(m.Entries(), want) {
		t.Error("joined", m.Entries())
	}
	if m.Free(2) != api.ErrNone {
		t.Error("Free of what is free")
	}
	m.Free(4)
	if s, n := m.Size(); s != 16 || n != 1 || len(m.Entries()) != 0 {
		t.Error("the header remains", n)
	}
}

func TestReplace(t *testing.T) {
	m := make16(t)
	put(t, m, 4, 1)
	put(t, m, 4, 2)
	put(t, m, 4, 3)
	if b, e := m.Replace(2, "ab"); b != 2 || e != api.OK {
		t.Error("in its place", b, e)
	}
	if b, e := m.Replace(1, "abcdef"); b != 4 || e != api.OK {
		t.Error("at the end", b, e)
	}
	if b, e := m.Replace(2, strings.Repeat("y", 20)); b != 1 || e != api.OK {
		t.Error("into what it was itself", b, e)
	}
	if want := [][3]int{{1, 2, 20}, {3, 1, 4}, {4, 2, 6}}; !reflect.DeepEqual(m.Entries(), want) {
		t.Error(m.Entries())
	}
}

func TestTooManyBlocks(t *testing.T) {
	m := make16(t)
	for range 31 {
		if _, e := m.Put(strings.Repeat("x", 2048)); e != api.OK {
			t.Fatal(e)
		}
	}
	_, n := m.Size()
	if _, e := m.Put(strings.Repeat("x", (4096-n)*16-12)); e != api.OK {
		t.Fatal("the last block", e)
	}
	if _, n := m.Size(); n != 4096 {
		t.Fatal(n)
	}
	before := m.Bytes()
	_, e1 := m.Put("")
	_, e2 := m.Replace(4096-n, "x")
	if e1 != api.ErrLarge || e2 != api.ErrNone {
		t.Error(e1, e2)
	}
	if b, e := m.Replace(1, strings.Repeat("x", 2047)); b != 1 || e != api.OK {
		t.Error("as many blocks", e)
	}
	last := m.Entries()[31]
	if _, e := m.Replace(last[0], strings.Repeat("x", 2048)); e != api.ErrLarge {
		t.Error("more blocks", e)
	}
	m.Replace(1, strings.Repeat("x", 2048))
	if !bytes.Equal(before, m.Bytes()) {
		t.Error("an error has changed the file")
	}
}

// P4.3
func TestPack(t *testing.T) {
	m := make16(t)
	put(t, m, 20, 1)
	put(t, m, 4, 3)
	put(t, m, 5, 4)
	put(t, m, 1, 6)
	before := m.Bytes()
	for _, c := range []struct {
		l []int
		e api.Errno
	}{{[]int{3, 3}, api.ErrArg}, {[]int{4, 3}, api.ErrArg}, {[]int{99, 3}, api.ErrArg}, {[]int{3, 5}, api.ErrNone}, {[]int{0}, api.ErrNone}} {
		if l, e := m.Pack(c.l); e != c.e || l != nil || !bytes.Equal(before, m.Bytes()) {
			t.Errorf("Pack %v: %d", c.l, e)
		}
	}
	l, e := m.Pack([]int{3, 4, 6})
	if want := [][2]int{{3, 1}, {4, 2}, {6, 4}}; !reflect.DeepEqual(l, want) || e != api.OK {
		t.Error("Pack", l, e)
	}
	if want := [][3]int{{1, 1, 4}, {2, 2, 5}, {4, 1, 1}}; !reflect.DeepEqual(m.Entries(), want) {
		t.Error(m.Entries())
	}
	if l, e := m.Pack(nil); len(l) != 0 || e != api.OK || len(m.Entries()) != 0 {
		t.Error("Pack of nothing")
	}
}

func TestCopyAndSame(t *testing.T) {
	m := make16(t)
	put(t, m, 20, 1)
	c := m.Copy()
	if !memo.Same(m, c) || !memo.Same(m, m) {
		t.Error("a copy is equal")
	}
	c.Put("a")
	if memo.Same(m, c) || len(m.Entries()) != 1 {
		t.Error("a copy is its own")
	}
	var none *memo.Memo
	if !memo.Same(none, nil) || memo.Same(m, none) || memo.Same(none, m) {
		t.Error("Same of nil")
	}
}

func TestNil(t *testing.T) {
	for _, m := range []*memo.Memo{nil, {}} {
		_, e1 := m.Put("")
		_, e2 := m.Get(1)
		_, e3 := m.Replace(1, "")
		_, e4 := m.Pack(nil)
		for _, e := range []api.Errno{e1, e2, e3, e4, m.Free(1)} {
			if e != api.ErrState {
				t.Error(e)
			}
		}
		if a, b := m.Size(); a != 0 || b != 0 || m.Bytes() != nil || m.Entries() != nil || m.Copy() != nil {
			t.Error("zero values")
		}
	}
}

// Texts stay what they are, whatever happens to others, and the file stays one that Open takes.
func TestManyChanges(t *testing.T) {
	r := rand.New(rand.NewSource(1))
	m := make16(t)
	texts := map[int]string{}
	for range 2000 {
		s := strings.Repeat(string(rune('a'+r.Intn(26))), r.Intn(70))
		var blocks []int
		for b := range texts {
			blocks = append(blocks, b)
		}
		slices.Sort(blocks)
		switch op := r.Intn(4); {
		case op < 2 || len(blocks) == 0:
			b, _ := m.Put(s)
			texts[b] = s
		case op == 2:
			b := blocks[r.Intn(len(blocks))]
			m.Free(b)
			delete(texts, b)
		default:
			b := blocks[r.Intn(len(blocks))]
			delete(texts, b)
			b, _ = m.Replace(b, s)
			texts[b] = s
		}
		if _, e := memo.Open(m.Bytes()); e != api.OK {
			t.Fatal("Open of Bytes", e)
		}
		for b, s := range texts {
			if got, e := m.Get(b); got != s || e != api.OK {
				t.Fatalf("block %d: %q %d", b, got, e)
			}
		}
	}
}

func TestManyGoroutines(t *testing.T) {
	m := make16(t)
	var wait sync.WaitGroup
	for range 8 {
		wait.Go(func() {
			for range 50 {
				b, _ := m.Put("abc")
				m.Replace(b, "abcd")
				m.Entries()
				memo.Same(m, m)
			}
		})
	}
	wait.Wait()
	if len(m.Entries()) != 400 {
		t.Error(len(m.Entries()))
	}
}
