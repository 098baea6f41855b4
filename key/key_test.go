package key_test

import (
	"bytes"
	"math/rand"
	"reflect"
	"slices"
	"strings"
	"testing"

	"cabinetry/api"
	"cabinetry/key"
	"cabinetry/page"
	"cabinetry/val"
)

func truth(n int) api.Value   { return api.Value{Kind: api.Truth, N: n} }
func num(n int) api.Value     { return api.Value{Kind: api.Num, N: n} }
func date(n int) api.Value    { return api.Value{Kind: api.Date, N: n} }
func text(s string) api.Value { return api.Value{Kind: api.Text, S: s} }

// P9.1
func TestEncode(t *testing.T) {
	for _, c := range []struct {
		v          api.Value
		page, coll int
		want       string
	}{
		{api.Value{}, 0, 0, "\x00"}, {truth(1), 0, 0, "\x01\x01"}, {truth(0), 0, 0, "\x01\x00"}, {num(-api.MaxNum), 0, 0, "\x02\x00\x00\x00\x00\x00\x00\x00\x00"}, {num(1 - api.MaxNum), 0, 0, "\x02\x00\x00\x00\x00\x00\x00\x00\x01"},
		{num(0), 0, 0, "\x02\x00\x03\x8d\x7e\xa4\xc6\x80\x00"}, {date(258), 0, 0, "\x03\x00\x00\x01\x02"}, {text("a"), 0, 0, "\x04a\x00\x00"}, {text(""), 0, 0, "\x04\x00\x00"}, {text("a\x00b"), 0, 0, "\x04a\x00\x01b\x00\x00"},
		{text("\xE9"), 1, 1, "\x04E\x00\x00"}, {text("\xE9"), 1, 0, "\x04\xE9\x00\x00"}, {text(strings.Repeat("x", 60)), 0, 0, "\x04" + strings.Repeat("x", 48) + "\x00\x00"},
	} {
		k, e := key.Encode(c.v, c.page, c.coll, false)
		if k != c.want || e != api.OK {
			t.Errorf("Encode %.20v: %q %d", c.v, k, e)
		}
		d, _ := key.Encode(c.v, c.page, c.coll, true)
		for i := range k {
			if d[i] != 255-k[i] {
				t.Errorf("descending %.20v: %q", c.v, d)
			}
		}
	}
	for _, c := range []struct {
		v          api.Value
		page, coll int
		e          api.Errno
	}{{text(strings.Repeat("x", 2049)), 9, 0, api.ErrLarge}, {truth(2), 0, 0, api.ErrArg}, {num(1), 3, 0, api.ErrArg}, {num(1), -1, 0, api.ErrArg}, {num(1), 0, 2, api.ErrArg}} {
		_, e1 := key.Encode(c.v, c.page, c.coll, false)
		_, e2 := key.Row([]api.Value{c.v}, c.page, c.coll, nil)
		_, _, _, e3 := key.Range("?", c.v, false, c.page, c.coll, false)
		if e1 != c.e || e2 != c.e || e3 != c.e {
			t.Errorf("%.20v: %d %d %d", c.v, e1, e2, e3)
		}
	}
}

// values are of one kind, in any order.
func values(r *rand.Rand, kind, n int) []api.Value {
	var l []api.Value
	for range n {
		switch kind {
		case api.Truth:
			l = append(l, truth(r.Intn(2)))
		case api.Num:
			l = append(l, num([]int{r.Intn(5) - 2, r.Intn(2*api.MaxNum) - api.MaxNum, 255, 256, -256}[r.Intn(5)]))
		case api.Date:
			l = append(l, date([]int{r.Intn(3), r.Intn(api.MaxDate), api.MaxDate}[r.Intn(3)]))
		case api.Text:
			b := make([]byte, []int{r.Intn(4), r.Intn(4), 46 + r.Intn(4)}[r.Intn(3)])
			for i := range b {
				b[i] = "\x00\x01 aAbB\xE9\xC9\xFE\xFF"[r.Intn(11)]
				if len(b) > 4 && i < 45 {
					b[i] = 'x'
				}
			}
			l = append(l, text(string(b)))
		}
	}
	return l
}

func order(a, b api.Value, coll int) int {
	if a.Kind == api.Text {
		n, _ := page.Order(a.S[:min(48, len(a.S))], b.S[:min(48, len(b.S))], 1, coll)
		return n
	}
	n, _ := val.Compare(a, b)
	return n
}

func TestOrderOfKeys(t *testing.T) {
	r := rand.New(rand.NewSource(9))
	for kind := api.Truth; kind <= api.Text; kind++ {
		l := values(r, kind, 120)
		for _, a := range l {
			for _, b := range l {
				for coll := range 2 {
					ka, _ := key.Encode(a, 1, coll, false)
					kb, _ := key.Encode(b, 1, coll, false)
					da, _ := key.Encode(a, 1, coll, true)
					db, _ := key.Encode(b, 1, coll, true)
					want := order(a, b, coll)
					if strings.Compare(ka, kb) != want || strings.Compare(db, da) != want || len(ka) > api.MaxKey {
						t.Fatalf("%v %v: %q %q", a, b, ka, kb)
					}
				}
			}
			none, _ := key.Encode(api.Value{}, 1, 0, false)
			k, _ := key.Encode(a, 1, 0, false)
			if none >= k {
				t.Error("Nil comes first")
			}
			down, _ := key.Encode(a, 1, 0, true)
			back, e := key.Decode(down, true)
			if len(a.S) <= 48 && (back != a || e != api.OK) {
				t.Errorf("Decode of Encode of %v: %v %d", a, back, e)
			}
		}
	}
}

func TestDecodeBroken(t *testing.T) {
	for _, k := range []string{"", "\x00\x00", "\x01", "\x01\x02", "\x01\x00\x00", "\x02\x00", "\x02\xff\xff\xff\xff\xff\xff\xff\xff", "\x02\x00\x07\x1a\xfd\x49\x8d\x00\x01", "\x03\x00\x37\xb9\xdc", "\x04", "\x04\x00", "\x04a\x00", "\x04a\x00\x02", "\x04a\x00\x00\x00", "\x04a", "\x05", "\xff", "\x04" + strings.Repeat("x", 49) + "\x00\x00"} {
		if v, e := key.Decode(k, false); e != api.ErrBroken || v != (api.Value{}) {
			t.Errorf("Decode %q: %v %d", k, v, e)
		}
	}
	if v, e := key.Decode("\x04"+strings.Repeat("\x00\x01", 48)+"\x00\x00", false); v != text(strings.Repeat("\x00", 48)) || e != api.OK {
		t.Error("48 bytes 0", e)
	}
	if v, e := key.Decode("\xff", true); v != (api.Value{}) || e != api.OK {
		t.Error("a descending Nil", e)
	}
}

func TestRowAndSplit(t *testing.T) {
	l := []api.Value{num(5), text("ab"), {}, truth(1)}
	down := []bool{true, false, true, true}
	k, e := key.Row(l, 0, 0, down)
	back, e2 := key.Split(k, down)
	if e != api.OK || e2 != api.OK || !slices.Equal(back, l) {
		t.Error(k, e, back, e2)
	}
	if k, e := key.Row(nil, 0, 0, nil); k != "" || e != api.OK {
		t.Error("no values", e)
	}
	big := text(strings.Repeat("x", 47))
	for i, c := range []struct {
		l    []api.Value
		down []bool
		e    api.Errno
	}{
		{l, down[:3], api.ErrFit}, {[]api.Value{big, big}, []bool{true, true}, api.OK}, {[]api.Value{big, big, {}}, make([]bool, 3), api.ErrLarge}, {[]api.Value{truth(2), text(strings.Repeat("x", 3000))}, nil, api.ErrLarge},
	} {
		if _, e := key.Row(c.l, 0, 0, c.down); e != c.e {
			t.Errorf("Row %d: %d", i, e)
		}
	}
	for _, c := range []struct {
		k    string
		down []bool
		e    api.Errno
	}{{"\x01\x01", []bool{false, false}, api.ErrFit}, {"", []bool{false}, api.ErrFit}, {"\x01\x01\x00", []bool{false}, api.ErrBroken}, {"\x01", []bool{false, false}, api.ErrBroken}, {"\x00", nil, api.ErrBroken}, {"", nil, api.OK}, {"\x01\x01\xff", []bool{false, true}, api.OK}} {
		if _, e := key.Split(c.k, c.down); e != c.e {
			t.Errorf("Split %q: %d", c.k, e)
		}
	}
}

// P9.2
func TestPrefix(t *testing.T) {
	for _, c := range []struct {
		s          string
		page, coll int
		down       bool
		want       string
		e          api.Errno
	}{
		{"ab", 0, 0, false, "\x04ab", api.OK}, {"", 0, 0, false, "\x04", api.OK}, {"a\x00", 0, 0, false, "\x04a\x00\x01", api.OK}, {"a", 0, 1, false, "\x04A", api.OK}, {"a", 0, 0, true, "\xfb\x9e", api.OK},
		{strings.Repeat("x", 48), 0, 0, false, "\x04" + strings.Repeat("x", 48), api.OK}, {strings.Repeat("x", 49), 0, 0, false, "", api.ErrLarge}, {strings.Repeat("x", 49), 3, 0, false, "", api.ErrArg}, {strings.Repeat("x", 2049), 3, 0, false, "", api.ErrLarge}, {"", 0, 2, false, "", api.ErrArg},
	} {
		if k, e := key.Prefix(c.s, c.page, c.coll, c.down); k != c.want || e != c.e {
			t.Errorf("Prefix %.20q: %q %d", c.s, k, e)
		}
	}
}

func TestBehind(t *testing.T) {
	for p, want := range map[string]string{"a": "b", "\x04\xff": "\x05", "a\xff\xff": "b", "\xfb\x9d\xff": "\xfb\x9e", "a\x00": "a\x01", "": "", "\xff\xff": ""} {
		if k, ok := key.Behind(p); k != want || ok != (want != "") {
			t.Errorf("Behind %q: %q %v", p, k, ok)
		}
	}
}

// P9.3
func holds(w api.Value, op string, v api.Value, exact bool) bool {
	n, _ := val.Compare(w, v)
	switch op {
	case "=":
		if v.Kind == api.Text {
			return val.Equal(w.S, v.S, exact)
		}
		return n == 0
	case "==":
		return n == 0
	case "<":
		return n < 0
	case "<=":
		return n <= 0
	case ">":
		return n > 0
	}
	return n >= 0
}

func TestRange(t *testing.T) {
	r := rand.New(rand.NewSource(93))
	for kind := api.Truth; kind <= api.Text; kind++ {
		l := values(r, kind, 60)
		for _, v := range l {
			for _, op := range []string{"=", "==", "<", "<=", ">", ">="} {
				for i := range 8 {
					exact, coll, down := i%2 == 1, i/2%2, i >= 4
					lo, hi, sure, e := key.Range(op, v, exact, 1, coll, down)
					must := coll == 0 && (kind != api.Text || len(v.S) <= 47) && !(op == "=" && exact)
					if e != api.OK || must && !sure {
						t.Fatalf("Range %s %v: %v %d", op, v, sure, e)
					}
					for _, w := range l {
						k, _ := key.Encode(w, 1, coll, down)
						in := k >= lo && (hi == "" || k < hi)
						is := holds(w, op, v, exact)
						if is && !in || sure && in && !is && len(w.S) <= 48 {
							t.Fatalf("%v %s %v (exact %v, collation %d, down %v): %q from %q below %q, sure %v", w, op, v, exact, coll, down, k, lo, hi, sure)
						}
					}
				}
			}
		}
	}
	for _, c := range []struct {
		op string
		v  api.Value
		e  api.Errno
	}{{"<>", num(1), api.ErrArg}, {"", num(1), api.ErrArg}, {"$", api.Value{}, api.ErrArg}, {"=", api.Value{}, api.ErrType}} {
		if lo, hi, sure, e := key.Range(c.op, c.v, false, 0, 0, false); e != c.e || lo+hi != "" || sure {
			t.Errorf("Range %s: %d", c.op, e)
		}
	}
}

// P9.4
func TestShort(t *testing.T) {
	for _, c := range [][3]string{{"abc", "abx", "abd"}, {"", "a", "\x00"}, {"a", "ab", "a\x00"}, {"a", "c", "b"}, {"a\xff", "b", "b"}, {"ab", "b", "b"}, {"a", "a\x00", "a\x00"}, {"abc", "abd", "abd"}} {
		if x, e := key.Short(c[0], c[1]); x != c[2] || e != api.OK {
			t.Errorf("Short %q %q: %q %d", c[0], c[1], x, e)
		}
	}
	for _, c := range [][2]string{{"a", "a"}, {"b", "a"}, {"", ""}, {"ab", "a"}} {
		if _, e := key.Short(c[0], c[1]); e != api.ErrArg {
			t.Errorf("Short %q %q: %d", c[0], c[1], e)
		}
	}
	// Against going through all short texts of three letters.
	var all []string
	for _, a := range []string{"", "\x00", "\x01", "\x02"} {
		for _, b := range []string{"", "\x00", "\x01", "\x02"} {
			for _, c := range []string{"", "\x00", "\x01", "\x02"} {
				all = append(all, a+b+c)
			}
		}
	}
	slices.SortFunc(all, func(a, b string) int { return 10*(len(a)-len(b)) + strings.Compare(a, b) })
	for _, a := range all {
		for _, b := range all {
			if a >= b || len(a) > 2 {
				continue
			}
			i := slices.IndexFunc(all, func(x string) bool { return a < x && x <= b })
			if x, _ := key.Short(a, b); x != all[i] {
				t.Errorf("Short %q %q: %q, want %q", a, b, x, all[i])
			}
		}
	}
}

func TestPack(t *testing.T) {
	l := []string{"", "a", "a", "ab", "abc", "b"}
	b, e := key.Pack(l)
	if want := []byte("\x00\x00\x00\x01a\x01\x00\x01\x01b\x02\x01c\x00\x01b"); !bytes.Equal(b, want) || e != api.OK {
		t.Errorf("Pack: %q %d", b, e)
	}
	back, e := key.Unpack(b)
	if !reflect.DeepEqual(back, l) || e != api.OK {
		t.Error("Unpack", back, e)
	}
	full := make([]string, 300)
	for i := range full {
		full[i] = strings.Repeat("x", 100)
	}
	b, e = key.Pack(full)
	if back, e2 := key.Unpack(b); e != api.OK || e2 != api.OK || !slices.Equal(back, full) {
		t.Error("the most keys", e, e2)
	}
	if _, e := key.Unpack(append(b, 100, 0)); e != api.ErrBroken {
		t.Error("301 keys", e)
	}
	for i, c := range []struct {
		l []string
		e api.Errno
	}{{[]string{"b", "a"}, api.ErrArg}, {[]string{"b", "a", strings.Repeat("x", 101)}, api.ErrLarge}, {append(full, ""), api.ErrLarge}, {nil, api.OK}} {
		if _, e := key.Pack(c.l); e != c.e {
			t.Errorf("Pack %d: %d", i, e)
		}
	}
	for _, s := range []string{"\x00", "\x01\x00", "\x00\x02a", "\x00\x01b\x00\x01a", "\x00\x01a\x00\x01a", "\x00\x02ab\x01\x01b", "\x00\x01a\x01", "\x00\x65" + strings.Repeat("x", 101)} {
		if l, e := key.Unpack([]byte(s)); e != api.ErrBroken || l != nil {
			t.Errorf("Unpack %q: %v %d", s, l, e)
		}
	}
}
