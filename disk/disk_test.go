package disk_test

import (
	"bytes"
	"math"
	"math/rand"
	"reflect"
	"slices"
	"sync"
	"testing"

	"cabinetry/api"
	"cabinetry/disk"
)

func system(t *testing.T, sizes ...int) *disk.System {
	t.Helper()
	s := disk.New()
	for i, n := range sizes {
		name := string(rune('A' + i))
		is(t, s.Make(name), api.OK)
		is(t, s.Resize(name, n), api.OK)
	}
	return s
}

func is(t *testing.T, got, want api.Errno) {
	t.Helper()
	if got != want {
		t.Errorf("error %d, want %d", got, want)
	}
}

func reads(t *testing.T, s *disk.System, u, at int, want string) {
	t.Helper()
	if b, e := s.Read(u, "A", at, len(want)); string(b) != want || e != api.OK {
		t.Errorf("station %d reads %q (%d), want %q", u, b, e, want)
	}
}

func onDisk(t *testing.T, s *disk.System, at int, want string) {
	t.Helper()
	if b, e := s.Disk("A"); e != api.OK || string(b[at:at+len(want)]) != want {
		t.Errorf("on the disk is %q, want %q", b, want)
	}
}

// P19.1
func TestFiles(t *testing.T) {
	s := disk.New()
	for name, e := range map[string]api.Errno{"": api.ErrArg, "a b": api.ErrArg, "ABCDEFGHIJK": api.ErrArg, "a_b": api.ErrArg, "ABCDEFGHIJ": api.OK, "a.1": api.OK, ".": api.OK} {
		is(t, s.Make(name), e)
	}
	is(t, s.Make("."), api.ErrTwice)
	for i := range 5 {
		is(t, s.Make(string(rune('0'+i))), api.OK)
	}
	is(t, s.Make("X"), api.ErrLarge)
	is(t, s.Make("."), api.ErrTwice)
	if l := s.Files(); !slices.Equal(l, []string{".", "0", "1", "2", "3", "4", "ABCDEFGHIJ", "a.1"}) {
		t.Error(l)
	}
	for _, n := range []int{-1, api.MaxBytes + 1} {
		is(t, s.Resize("0", n), api.ErrArg)
	}
	is(t, s.Resize("0", api.MaxBytes), api.OK)
	if n, e := s.Size("0"); n != api.MaxBytes || e != api.OK {
		t.Error(n, e)
	}
	is(t, s.Lock(0, "1", 5, 1), api.OK)
	is(t, s.Drop("1"), api.ErrBusy)
	is(t, s.Drop("0"), api.OK)
	is(t, s.Drop("0"), api.ErrNone)
}

func TestCommonErrors(t *testing.T) {
	s := system(t, 10)
	for _, c := range []struct {
		u    int
		name string
		e    api.Errno
	}{{-1, "?", api.ErrArg}, {4, "A", api.ErrArg}, {0, "?", api.ErrArg}, {0, "X", api.ErrNone}} {
		_, e1 := s.Read(c.u, c.name, -1, 0)
		_, e2 := s.Flush(c.u, c.name)
		_, e3 := s.Forget(c.u, c.name)
		_, e4 := s.Dirty(c.u, c.name)
		for i, e := range []api.Errno{e1, e2, e3, e4, s.Write(c.u, c.name, -1, nil), s.Lock(c.u, c.name, -1, 0), s.Unlock(c.u, c.name, 0, 1)} {
			if e != c.e {
				t.Errorf("%v, method %d: %d", c, i, e)
			}
		}
	}
	_, e1 := s.Size("?")
	_, e2 := s.Disk("X")
	_, e3 := s.Fall(4)
	if e1 != api.ErrArg || e2 != api.ErrNone || e3 != api.ErrArg || s.Drop("?") != api.ErrArg || s.Resize("X", -1) != api.ErrNone {
		t.Error(e1, e2, e3)
	}
}

func TestResizeCutsCaches(t *testing.T) {
	s := system(t, 70)
	is(t, s.Write(0, "A", 30, []byte("abcdefgh")), api.OK)
	is(t, s.Write(0, "A", 66, []byte("xy")), api.OK)
	reads(t, s, 1, 64, "\x00\x00")
	is(t, s.Resize("A", 34), api.OK)
	if l, e := s.Dirty(0, "A"); !slices.Equal(l, []int{30, 31, 32, 33}) || e != api.OK {
		t.Error(l, e)
	}
	is(t, s.Resize("A", 70), api.OK)
	reads(t, s, 0, 30, "abcd\x00\x00\x00\x00")
	if n, _ := s.Flush(0, "A"); n != 4 {
		t.Error(n)
	}
	onDisk(t, s, 30, "abcd\x00\x00")
	if n, _ := s.Forget(1, "A"); n != 0 {
		t.Error("a page that is gone", n)
	}
	is(t, s.Drop("A"), api.OK)
	is(t, s.Make("A"), api.OK)
	is(t, s.Resize("A", 40), api.OK)
	reads(t, s, 0, 30, "\x00\x00")
}

// P19.2
func TestReadAndWrite(t *testing.T) {
	s := system(t, 40)
	for _, c := range [][2]int{{-1, 1}, {0, -1}, {0, 41}, {40, 1}, {41, 0}, {math.MaxInt, 1}, {1, math.MaxInt}} {
		if b, e := s.Read(0, "A", c[0], c[1]); e != api.ErrArg || b != nil {
			t.Error(c, e)
		}
	}
	is(t, s.Write(0, "A", 39, []byte("ab")), api.ErrArg)
	is(t, s.Write(0, "A", -1, nil), api.ErrArg)
	is(t, s.Write(0, "A", 41, nil), api.ErrArg)
	is(t, s.Write(0, "A", 40, nil), api.OK)
	reads(t, s, 0, 0, "\x00")
	is(t, s.Write(1, "A", 0, []byte("x")), api.OK)
	onDisk(t, s, 0, "\x00")
	if n, e := s.Flush(1, "A"); n != 1 || e != api.OK {
		t.Error(n, e)
	}
	reads(t, s, 0, 0, "\x00")
	is(t, s.Lock(0, "A", 3, 1), api.OK)
	reads(t, s, 0, 0, "x")
	is(t, s.Write(0, "A", 1, []byte("0")), api.OK)
	is(t, s.Write(1, "A", 2, []byte("1")), api.OK)
	s.Flush(0, "A")
	s.Flush(1, "A")
	onDisk(t, s, 0, "x01")
	reads(t, s, 0, 0, "x0\x00")
}

func TestGrownBytesAreFetched(t *testing.T) {
	s := system(t, 5)
	reads(t, s, 0, 0, "\x00")
	is(t, s.Resize("A", 20), api.OK)
	is(t, s.Write(1, "A", 3, []byte("abcdef")), api.OK)
	s.Flush(1, "A")
	reads(t, s, 0, 3, "\x00\x00cd")
	is(t, s.Write(1, "A", 3, []byte("ABCDEF")), api.OK)
	s.Flush(1, "A")
	reads(t, s, 0, 3, "\x00\x00cdEF")
}

// P19.3
func TestLocks(t *testing.T) {
	s := system(t, 100, 10)
	for _, c := range [][2]int{{-1, 1}, {0, 0}, {0, -1}, {2 * api.MaxBytes, 1}, {0, 2*api.MaxBytes + 1}, {math.MaxInt, math.MaxInt}, {1, math.MaxInt}} {
		is(t, s.Lock(0, "A", c[0], c[1]), api.ErrArg)
	}
	is(t, s.Lock(0, "B", 2*api.MaxBytes-1, 1), api.OK)
	is(t, s.Lock(0, "A", 10, 10), api.OK)
	is(t, s.Lock(1, "A", 20, 5), api.OK)
	is(t, s.Lock(1, "A", 5, 5), api.OK)
	is(t, s.Lock(0, "A", 0, 11), api.ErrTwice)
	is(t, s.Lock(2, "A", 19, 1), api.ErrBusy)
	is(t, s.Lock(1, "A", 9, 2), api.ErrTwice)
	is(t, s.Unlock(0, "A", 10, 9), api.ErrNone)
	is(t, s.Unlock(1, "A", 10, 10), api.ErrNone)
	if l := s.Locks(); !reflect.DeepEqual(l, [][4]int{{0, 0, 10, 10}, {0, 1, 2*api.MaxBytes - 1, 1}, {1, 0, 5, 5}, {1, 0, 20, 5}}) {
		t.Error(l)
	}
	is(t, s.Write(0, "A", 0, []byte("ab")), api.OK)
	is(t, s.Write(0, "A", 40, []byte("cd")), api.OK)
	is(t, s.Unlock(0, "A", 10, 10), api.OK)
	onDisk(t, s, 0, "ab")
	onDisk(t, s, 40, "\x00\x00")
	if l, _ := s.Dirty(0, "A"); !slices.Equal(l, []int{40, 41}) {
		t.Error(l)
	}
	if n, e := s.Forget(0, "A"); n != 1 || e != api.OK {
		t.Error("the clean page", n, e)
	}
	is(t, s.Write(0, "B", 1, []byte("z")), api.OK)
	if n, e := s.Fall(0); n != 3 || e != api.OK {
		t.Error("Fall", n, e)
	}
	if l := s.Locks(); len(l) != 2 {
		t.Error(l)
	}
	reads(t, s, 0, 40, "\x00\x00")
}

// A dirty byte stays when clean ones are fetched anew.
func TestLockKeepsDirtyBytes(t *testing.T) {
	s := system(t, 10)
	is(t, s.Write(0, "A", 1, []byte("0")), api.OK)
	is(t, s.Write(1, "A", 1, []byte("12")), api.OK)
	s.Flush(1, "A")
	is(t, s.Lock(0, "A", 0, 1), api.OK)
	reads(t, s, 0, 0, "\x0002")
}

// Behind the end of the file there are no bytes of a page.
func TestLockBehindTheEnd(t *testing.T) {
	s := system(t, 40)
	is(t, s.Write(0, "A", 35, []byte("x")), api.OK)
	is(t, s.Lock(0, "A", 50, 5), api.OK)
	is(t, s.Unlock(0, "A", 50, 5), api.OK)
	onDisk(t, s, 35, "\x00")
}

// model keeps bytes one by one.
type model struct {
	disk  []byte
	cache [2]map[int]byte
	dirty [2]map[int]bool
	pages [2]map[int]bool
}

func (m *model) touch(u, k int) {
	if !m.pages[u][k/32] {
		m.pages[u][k/32] = true
		for i := k / 32 * 32; i < min(k/32*32+32, len(m.disk)); i++ {
			m.cache[u][i] = m.disk[i]
		}
	}
	if _, ok := m.cache[u][k]; !ok {
		m.cache[u][k] = m.disk[k]
	}
}

func (m *model) flush(u int, want func(page int) bool) {
	for k := range m.dirty[u] {
		if want(k / 32) {
			m.disk[k] = m.cache[u][k]
			delete(m.dirty[u], k)
		}
	}
}

func TestAgainstModel(t *testing.T) {
	for seed := range 200 {
		r := rand.New(rand.NewSource(int64(seed)))
		s := system(t, 70)
		m := &model{disk: make([]byte, 70)}
		for u := range 2 {
			m.cache[u], m.dirty[u], m.pages[u] = map[int]byte{}, map[int]bool{}, map[int]bool{}
		}
		held := map[[2]int]int{}
		for range 60 {
			u, at := r.Intn(2), r.Intn(80)
			n := r.Intn(20)
			switch r.Intn(8) {
			case 0, 1:
				b, e := s.Read(u, "A", at, n)
				if at+n > len(m.disk) {
					is(t, e, api.ErrArg)
					continue
				}
				for k := at; k < at+n; k++ {
					m.touch(u, k)
					if b[k-at] != m.cache[u][k] {
						t.Fatal("Read", seed, k, b[k-at], m.cache[u][k])
					}
				}
			case 2, 3:
				b := make([]byte, n)
				r.Read(b)
				e := s.Write(u, "A", at, b)
				if at+n > len(m.disk) {
					is(t, e, api.ErrArg)
					continue
				}
				for i, c := range b {
					m.touch(u, at+i)
					m.cache[u][at+i], m.dirty[u][at+i] = c, true
				}
			case 4:
				if s.Lock(u, "A", at, n+1) == api.OK {
					held[[2]int{at, n + 1}] = u
					for p := range m.pages[u] {
						end := min(p*32+32, len(m.disk))
						for k := p * 32; k < end && at < end && at+n+1 > p*32; k++ {
							if _, ok := m.cache[u][k]; ok && !m.dirty[u][k] {
								m.cache[u][k] = m.disk[k]
							}
						}
					}
				}
			case 5:
				for l, u := range held {
					is(t, s.Unlock(u, "A", l[0], l[1]), api.OK)
					m.flush(u, func(p int) bool { return l[0] < min(p*32+32, len(m.disk)) && l[0]+l[1] > p*32 })
					delete(held, l)
					break
				}
			case 6:
				s.Flush(u, "A")
				m.flush(u, func(int) bool { return true })
			default:
				size := 30 + r.Intn(60)
				is(t, s.Resize("A", size), api.OK)
				next := make([]byte, size)
				copy(next, m.disk)
				m.disk = next
				for u := range 2 {
					for k := range m.cache[u] {
						if k >= size {
							delete(m.cache[u], k)
							delete(m.dirty[u], k)
						}
					}
					for p := range m.pages[u] {
						if p*32 >= size {
							delete(m.pages[u], p)
						}
					}
				}
			}
			if b, _ := s.Disk("A"); !bytes.Equal(b, m.disk) {
				t.Fatal("Disk", seed)
			}
			if l, _ := s.Dirty(u, "A"); len(l) != len(m.dirty[u]) {
				t.Fatal("Dirty", seed, l, m.dirty[u])
			}
		}
	}
}

// P19.4: who locks reads what the last one wrote.
func TestLockedBytesAreTheNewest(t *testing.T) {
	r := rand.New(rand.NewSource(1))
	s := system(t, 64)
	want := make([]byte, 64)
	for range 500 {
		u, at, n := r.Intn(4), r.Intn(60), 1+r.Intn(4)
		is(t, s.Lock(u, "A", at, n), api.OK)
		if b, _ := s.Read(u, "A", at, n); !bytes.Equal(b, want[at:at+n]) {
			t.Fatal(b, want[at:at+n])
		}
		for i := range n {
			want[at+i] = byte(r.Intn(256))
		}
		s.Write(u, "A", at, want[at:at+n])
		is(t, s.Unlock(u, "A", at, n), api.OK)
	}
}

func TestCopyAndSame(t *testing.T) {
	s := system(t, 40)
	for i, change := range []func(s *disk.System){
		func(s *disk.System) { s.Make("X") }, func(s *disk.System) { s.Read(2, "A", 0, 1) }, func(s *disk.System) { s.Write(0, "A", 0, []byte{0}) }, func(s *disk.System) { s.Lock(0, "A", 0, 1) }, func(s *disk.System) { s.Resize("A", 41) },
	} {
		c := s.Copy()
		if !disk.Same(s, c) {
			t.Fatal("a copy is equal")
		}
		change(c)
		if disk.Same(s, c) || disk.Same(c, s) {
			t.Errorf("change %d is not seen", i)
		}
	}
	b, _ := s.Disk("A")
	b[0] = 9
	onDisk(t, s, 0, "\x00")
}

func TestNil(t *testing.T) {
	for _, s := range []*disk.System{nil, {}} {
		_, e1 := s.Size("A")
		_, e2 := s.Read(9, "?", 0, 0)
		_, e3 := s.Flush(0, "A")
		_, e4 := s.Forget(0, "A")
		_, e5 := s.Fall(0)
		_, e6 := s.Disk("A")
		_, e7 := s.Dirty(0, "A")
		for i, e := range []api.Errno{e1, e2, e3, e4, e5, e6, e7, s.Make("A"), s.Drop("A"), s.Resize("A", 1), s.Write(0, "A", 0, nil), s.Lock(0, "A", 0, 1), s.Unlock(0, "A", 0, 1)} {
			if e != api.ErrState {
				t.Errorf("method %d of nil: %d", i, e)
			}
		}
		if s.Locks() != nil || s.Files() != nil || s.Copy() != nil || !disk.Same(s, nil) || disk.Same(s, disk.New()) {
			t.Error("nil")
		}
	}
}

func TestManyGoroutines(t *testing.T) {
	s := system(t, 200)
	var wait sync.WaitGroup
	for u := range 4 {
		wait.Go(func() {
			for i := range 60 {
				s.Write(u, "A", i, []byte{byte(u)})
				s.Read(u, "A", 0, 100)
				if s.Lock(u, "A", u*10, 5) == api.OK {
					s.Unlock(u, "A", u*10, 5)
				}
				s.Flush(u, "A")
				s.Forget(u, "A")
				disk.Same(s, s.Copy())
			}
		})
	}
	wait.Wait()
}
