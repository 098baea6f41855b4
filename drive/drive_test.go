package drive_test

import (
	"bytes"
	"testing"

	"cabinetry/api"
	"cabinetry/drive"
)

func TestWrites(t *testing.T) {
	d := drive.New([]byte("ab"), nil)
	d.Append(1, []byte("xyz"))
	d.Append(0, []byte("cd"))
	d.Cut(0, 1)
	d.Append(0, []byte("E"))
	for _, c := range []struct {
		n, k int
		a, b string
	}{{0, 0, "ab", ""}, {0, 2, "ab", "xy"}, {0, 9, "ab", "xyz"}, {1, 1, "abc", "xyz"}, {2, 0, "abcd", "xyz"}, {2, 1, "a", "xyz"}, {3, 0, "a", "xyz"}, {4, 9, "aE", "xyz"}} {
		f := d.At(c.n, c.k)
		if string(f[0]) != c.a || string(f[1]) != c.b {
			t.Errorf("%d, %d: %q %q", c.n, c.k, f[0], f[1])
		}
	}
	if d.Count() != 4 || string(d.Now(0)) != "aE" {
		t.Error(d.Count(), d.Now(0))
	}
}

func TestSeal(t *testing.T) {
	b := drive.Seal('X', []byte("body"))
	kind, body, size, ok := drive.Unseal(append(bytes.Clone(b), "more"...))
	if kind != 'X' || string(body) != "body" || size != len(b) || !ok {
		t.Error(kind, body, size, ok)
	}
	for i := range b {
		if _, _, size, ok := drive.Unseal(b[:i]); size != 0 || !ok {
			t.Error("torn", i, size, ok)
		}
		x := bytes.Clone(b)
		x[i] ^= 1
		if _, _, size, ok := drive.Unseal(x); ok && size > 0 {
			t.Error("altered", i)
		}
	}
}

func TestPatch(t *testing.T) {
	tab := api.Table{Fields: []api.Field{{Name: "A", Kind: api.Num, Width: 3}}}
	for n := range 3 {
		tab.Recs = append(tab.Recs, api.Record{V: []api.Value{{Kind: api.Num, N: n}}})
	}
	d := drive.Difference(tab, []int{2, 3})
	short := tab
	short.Recs = tab.Recs[:2:2]
	short.Recs[1].Gone = true
	got, ok := drive.Patch(short, d)
	if !ok || len(got.Recs) != 3 || got.Recs[2].V[0].N != 2 || len(short.Recs) != 2 {
		t.Error(got, ok)
	}
	short.Recs = nil
	if _, ok := drive.Patch(short, d); ok {
		t.Error("a record too far behind")
	}
	for i := range d {
		drive.Patch(tab, d[:i])
	}
}
