package table_test

import (
	"bytes"
	"reflect"
	"strings"
	"testing"

	"cabinetry/api"
	"cabinetry/table"
)

func truth(n int) api.Value   { return api.Value{Kind: api.Truth, N: n} }
func num(n int) api.Value     { return api.Value{Kind: api.Num, N: n} }
func date(n int) api.Value    { return api.Value{Kind: api.Date, N: n} }
func text(s string) api.Value { return api.Value{Kind: api.Text, S: s} }

func field(name string, kind, width int, null bool) api.Field {
	return api.Field{Name: name, Kind: kind, Width: width, Null: null}
}

func sample() api.Table {
	return api.Table{
		Page: 1,
		Fields: []api.Field{
			field("NAME", api.Text, 5, false), field("AGE", api.Num, 3, true), field("BORN", api.Date, 8, true),
			field("OK", api.Truth, 1, false), field("NOTE", api.Memo, 8, true),
		},
		Recs: []api.Record{
			{V: []api.Value{text("ab"), num(-12), date(738916), truth(1), num(7)}},
			{Gone: true, V: []api.Value{text(""), {}, {}, truth(0), {}}},
			{V: []api.Value{text("a\xE9c e"), num(0), date(0), truth(0), num(0)}},
		},
	}
}

func nf(n int, f api.Field) []api.Field {
	var l []api.Field
	for i := range n {
		f.Name = "F" + string(rune('A'+i/26)) + string(rune('A'+i%26))
		l = append(l, f)
	}
	return l
}

// P3.1
func TestValidateFields(t *testing.T) {
	one := field("A", api.Num, 3, false)
	for _, c := range []struct {
		l []api.Field
		e api.Errno
	}{
		{nil, api.ErrArg}, {[]api.Field{one}, api.OK}, {[]api.Field{one, one}, api.ErrTwice}, {[]api.Field{one, one, {}}, api.ErrArg},
		{nf(16, one), api.OK}, {nf(17, one), api.ErrLarge}, {nf(7, field("", api.Text, 254, false)), api.OK}, {nf(8, field("", api.Text, 254, false)), api.ErrLarge},
		{append(nf(7, field("", api.Text, 254, false)), field("REST", api.Text, 221, false)), api.OK},
		{append(nf(7, field("", api.Text, 254, false)), field("REST", api.Text, 221, true)), api.ErrLarge},
		{append(nf(17, one), one, one), api.ErrTwice},
	} {
		if e := table.ValidateFields(c.l); e != c.e {
			t.Errorf("ValidateFields %v: %d, want %d", c.l, e, c.e)
		}
	}
	for _, f := range []api.Field{
		field("", api.Num, 3, false), field("ABCDEFGHIJK", api.Num, 3, false), field("a", api.Num, 3, false), field("_A", api.Num, 3, false), field("1A", api.Num, 3, false), field("A B", api.Num, 3, false),
		field("A", api.Num, 0, false), field("A", api.Num, 16, false), field("A", api.Text, 0, false), field("A", api.Text, 255, false), field("A", api.Truth, 2, false),
		field("A", api.Date, 7, false), field("A", api.Memo, 10, false), field("A", api.Nil, 1, false), field("A", 6, 1, false), field("A", -1, 1, false),
	} {
		if e := table.ValidateFields([]api.Field{f}); e != api.ErrArg {
			t.Errorf("field %v: %d", f, e)
		}
	}
	if e := table.ValidateFields([]api.Field{field("A_1BCDEFGH", api.Num, 15, true)}); e != api.OK {
		t.Error("a right field")
	}
}

func TestValidate(t *testing.T) {
	if e := table.Validate(sample()); e != api.OK {
		t.Error("sample", e)
	}
	for i, c := range []struct {
		change func(t *api.Table)
		e      api.Errno
	}{
		{func(t *api.Table) { t.Page = 3; t.Fields = nil }, api.ErrArg},
		{func(t *api.Table) { t.Page = -1 }, api.ErrArg},
		{func(t *api.Table) { t.Fields = append(t.Fields, t.Fields[0]); t.Recs = make([]api.Record, 400) }, api.ErrTwice},
		{func(t *api.Table) { t.Recs = make([]api.Record, 301) }, api.ErrLarge},
		{func(t *api.Table) { t.Recs[1].V = t.Recs[1].V[:4] }, api.ErrFit},
		{func(t *api.Table) { t.Recs[0].V[0] = num(1); t.Recs[1].V = nil }, api.ErrArg},
		{func(t *api.Table) { t.Recs[0].V = nil; t.Recs[1].V[0] = num(1) }, api.ErrFit},
		{func(t *api.Table) { t.Recs[0].V[0] = text("abcdef") }, api.ErrArg},
		{func(t *api.Table) { t.Recs[0].V[0] = text("ab ") }, api.ErrArg},
		{func(t *api.Table) { t.Recs[0].V[0] = api.Value{} }, api.ErrArg},
		{func(t *api.Table) { t.Page = 0 }, api.ErrArg},
		{func(t *api.Table) { t.Recs[0].V[0] = text(strings.Repeat("a", 3000)) }, api.ErrArg},
		{func(t *api.Table) { t.Recs[0].V[1] = num(1000) }, api.ErrArg},
		{func(t *api.Table) { t.Recs[0].V[1] = num(-100) }, api.ErrArg},
		{func(t *api.Table) { t.Recs[0].V[1] = api.Value{N: 1} }, api.ErrArg},
		{func(t *api.Table) { t.Recs[0].V[2] = date(-1) }, api.ErrArg},
		{func(t *api.Table) { t.Recs[0].V[3] = truth(2) }, api.ErrArg},
		{func(t *api.Table) { t.Recs[0].V[4] = num(100000000) }, api.ErrArg},
		{func(t *api.Table) { t.Recs[0].V[4] = num(-1) }, api.ErrArg},
		{func(t *api.Table) { t.Recs[0].V[4] = api.Value{Kind: api.Memo, N: 1} }, api.ErrArg},
		{func(t *api.Table) { t.Recs[0].V[4] = num(99999999) }, api.OK},
	} {
		s := sample()
		c.change(&s)
		if e := table.Validate(s); e != c.e {
			t.Errorf("change %d: %d, want %d", i, e, c.e)
		}
		if _, e := table.Bytes(s); e != c.e {
			t.Errorf("Bytes of change %d: %d", i, e)
		}
	}
}

func TestLengthAndOffsets(t *testing.T) {
	l := sample().Fields
	if n, e := table.Length(l); n != 1+1+5+3+8+1+8 || e != api.OK {
		t.Error("Length", n, e)
	}
	if o, e := table.Offsets(l); !reflect.DeepEqual(o, []int{2, 7, 10, 18, 19}) || e != api.OK {
		t.Error("Offsets", o, e)
	}
	if n, _ := table.Length(nf(9, field("", api.Num, 1, true))); n != 1+2+9 {
		t.Error("two bytes of flags", n)
	}
	_, e1 := table.Length(nil)
	_, e2 := table.Offsets(nf(17, l[0]))
	if e1 != api.ErrArg || e2 != api.ErrLarge {
		t.Error(e1, e2)
	}
}

// P3.2
func TestBytes(t *testing.T) {
	small := api.Table{Fields: []api.Field{field("AB", api.Text, 3, false)}, Recs: []api.Record{{V: []api.Value{text("ab")}}}}
	b, e := table.Bytes(small)
	want := "C\x00\x01\x00\x00\x00\x1d\x00\x04\x00\x01\x00AB\x00\x00\x00\x00\x00\x00\x00\x00C\x03\x00\x00\x00\x00\x0d ab \x1a"
	if string(b) != want || e != api.OK || len(b) != 34 {
		t.Errorf("Bytes: %q", b)
	}
	h, _ := table.Header(small)
	r, _ := table.Row(small, 1)
	if string(h) != want[:29] || string(r) != " ab " {
		t.Errorf("Header %q, Row %q", h, r)
	}
	for k, want := range map[int]string{1: " \x00ab   -1220240131T       7", 2: "*\x07                F        ", 3: " \x00a\xE9c e  0        F        "} {
		if r, e := table.Row(sample(), k); string(r) != want || e != api.OK {
			t.Errorf("Row %d: %q", k, r)
		}
	}
	for _, k := range []int{0, -1, 4} {
		if _, e := table.Row(sample(), k); e != api.ErrNone {
			t.Errorf("Row %d: %d", k, e)
		}
	}
	_, e1 := table.Header(api.Table{})
	_, e2 := table.Row(api.Table{Page: 5}, 0)
	if e1 != api.ErrArg || e2 != api.ErrArg {
		t.Error(e1, e2)
	}
}

func TestRead(t *testing.T) {
	for _, x := range []api.Table{sample(), {Fields: nf(16, field("", api.Num, 2, true))}, {Page: 2, Fields: nf(2, field("", api.Truth, 1, false)), Recs: make300()}} {
		b, e := table.Bytes(x)
		if e != api.OK {
			t.Fatal(e)
		}
		back, e := table.Read(b)
		if again, _ := table.Bytes(back); e != api.OK || !bytes.Equal(again, b) {
			t.Error("Read of Bytes", e)
		}
		if d, e := table.Differ(x, back); len(d) > 0 || e != api.OK {
			t.Error("Differ of Read", d, e)
		}
	}
}

func make300() []api.Record {
	var l []api.Record
	for i := range 300 {
		l = append(l, api.Record{Gone: i%3 == 0, V: []api.Value{truth(i % 2), truth(1)}})
	}
	return l
}

// Each change of one byte gives no table, or one that has just these bytes.
func TestReadBroken(t *testing.T) {
	b, _ := table.Bytes(sample())
	for i := range b {
		for _, c := range []byte{0, 1, 2, 8, ' ', '*', 'T', 0x1A, 0xFF, b[i] ^ 0x80, b[i] + 1} {
			x := bytes.Clone(b)
			x[i] = c
			got, e := table.Read(x)
			if e == api.ErrBroken && got.Fields == nil {
				continue
			}
			if again, e2 := table.Bytes(got); e != api.OK || e2 != api.OK || !bytes.Equal(again, x) {
				t.Fatalf("byte %d as %d: %d", i, c, e)
			}
		}
		if _, e := table.Read(b[:i]); e != api.ErrBroken {
			t.Fatalf("%d bytes: %d", i, e)
		}
	}
	for _, x := range [][]byte{nil, append(bytes.Clone(b), 0), append(bytes.Clone(b), b...)} {
		if _, e := table.Read(x); e != api.ErrBroken {
			t.Errorf("%d bytes: %d", len(x), e)
		}
	}
}

func TestDiffer(t *testing.T) {
	a, b := sample(), sample()
	b.Recs[1].Gone = false
	b.Recs = append(b.Recs, b.Recs[0], b.Recs[0])
	if d, e := table.Differ(a, b); !reflect.DeepEqual(d, []int{2, 4, 5}) || e != api.OK {
		t.Error("Differ", d, e)
	}
	b.Page = 2
	b.Recs = nil
	if _, e := table.Differ(a, b); e != api.ErrFit {
		t.Error("pages", e)
	}
	b = sample()
	b.Fields[0].Width = 6
	if _, e := table.Differ(a, b); e != api.ErrFit {
		t.Error("fields", e)
	}
	if _, e := table.Differ(a, api.Table{}); e != api.ErrArg {
		t.Error("no table", e)
	}
}

// P3.3
func TestBlank(t *testing.T) {
	r, e := table.Blank(sample().Fields)
	if want := []api.Value{text(""), num(0), date(0), truth(0), num(0)}; !reflect.DeepEqual(r.V, want) || r.Gone || e != api.OK {
		t.Error("Blank", r, e)
	}
	if _, e := table.Blank(nil); e != api.ErrArg {
		t.Error("no fields")
	}
}

func TestFit(t *testing.T) {
	c2, n3, memo, day := field("A", api.Text, 2, false), field("A", api.Num, 3, true), field("A", api.Memo, 8, false), field("A", api.Date, 8, false)
	for _, c := range []struct {
		f       api.Field
		page    int
		v, want api.Value
		e       api.Errno
	}{
		{c2, 0, text("ab "), text("ab"), api.OK}, {c2, 0, text("a bc"), text("a"), api.OK}, {c2, 0, text("ab\xff"), text("ab"), api.OK}, {c2, 0, text("a\xff"), text(""), api.ErrFit}, {c2, 1, text("a\xff"), text("a\xff"), api.OK},
		{c2, 0, api.Value{}, text(""), api.ErrRule}, {n3, 0, api.Value{}, api.Value{}, api.OK}, {c2, 0, num(1), text(""), api.ErrType}, {n3, 0, text("1"), num(0), api.ErrType},
		{n3, 0, num(999), num(999), api.OK}, {n3, 0, num(1000), num(0), api.ErrFit}, {n3, 0, num(-99), num(-99), api.OK}, {n3, 0, num(-100), num(0), api.ErrFit},
		{memo, 0, num(99999999), num(99999999), api.OK}, {memo, 0, num(100000000), num(0), api.ErrFit}, {memo, 0, num(-1), num(0), api.ErrFit}, {memo, 0, text("a"), num(0), api.ErrType},
		{day, 0, date(5), date(5), api.OK}, {day, 0, num(5), date(0), api.ErrType},
		{field("", api.Text, 2, false), 0, num(api.MaxNum + 1), api.Value{}, api.ErrArg}, {c2, 3, text(strings.Repeat("a", 3000)), text(""), api.ErrArg}, {c2, 1, text(strings.Repeat("a", 3000)), text(""), api.ErrLarge},
		{n3, 0, api.Value{N: 1}, num(0), api.ErrArg}, {memo, 0, api.Value{Kind: api.Memo}, num(0), api.ErrArg},
	} {
		v, e := table.Fit(c.f, c.page, c.v)
		if e != c.e || e == api.OK && v != c.want || e != api.OK && v != (api.Value{}) {
			t.Errorf("Fit %v %.20v: %v %d", c.f, c.v, v, e)
		}
	}
}

// P3.4
func TestModify(t *testing.T) {
	s := sample()
	for _, c := range []struct {
		f    api.Field
		want []api.Value
	}{
		{field("AGE", api.Text, 3, true), []api.Value{text("-12"), {}, text("0")}},
		{field("AGE", api.Text, 2, false), []api.Value{text("-1"), text(""), text("0")}},
		{field("AGE", api.Num, 2, false), []api.Value{num(0), num(0), num(0)}},
		{field("AGE", api.Date, 8, true), []api.Value{date(0), {}, date(0)}},
		{field("AGE", api.Truth, 1, false), []api.Value{truth(0), truth(0), truth(0)}},
		{field("AGE", api.Memo, 8, false), []api.Value{num(0), num(0), num(0)}},
		{field("BORN", api.Text, 8, false), []api.Value{text("20240131"), text(""), text("")}},
		{field("OK", api.Text, 1, false), []api.Value{text("T"), text("F"), text("F")}},
		{field("NOTE", api.Memo, 8, false), []api.Value{num(7), num(0), num(0)}},
		{field("NOTE", api.Text, 8, true), []api.Value{text(""), {}, text("")}},
		{field("NAME", api.Text, 1, false), []api.Value{text("a"), text(""), text("a")}},
		{field("NEW", api.Num, 1, true), []api.Value{num(0), num(0), num(0)}},
	} {
		got, e := table.Modify(s, []api.Field{c.f})
		if e != api.OK || table.Validate(got) != api.OK || !got.Recs[1].Gone || got.Page != 1 {
			t.Fatalf("Modify to %v: %d", c.f, e)
		}
		for i, want := range c.want {
			if got.Recs[i].V[0] != want {
				t.Errorf("Modify to %v: record %d is %v", c.f, i, got.Recs[i].V[0])
			}
		}
	}
}

func TestModifyTexts(t *testing.T) {
	s := api.Table{Fields: []api.Field{field("A", api.Text, 9, true)}}
	for _, x := range []string{" 12x", "20240131", "20240132", "true", "T", "f", ""} {
		s.Recs = append(s.Recs, api.Record{V: []api.Value{text(x)}})
	}
	for _, c := range []struct {
		f    api.Field
		want []api.Value
	}{
		{field("A", api.Num, 2, false), []api.Value{num(12), num(0), num(0), num(0), num(0), num(0), num(0)}},
		{field("A", api.Date, 8, false), []api.Value{date(0), date(738916), date(0), date(0), date(0), date(0), date(0)}},
		{field("A", api.Truth, 1, true), []api.Value{truth(0), truth(0), truth(0), truth(1), truth(1), truth(0), truth(0)}},
		{field("A", api.Memo, 8, true), []api.Value{num(0), num(0), num(0), num(0), num(0), num(0), num(0)}},
	} {
		got, e := table.Modify(s, []api.Field{c.f})
		for i, want := range c.want {
			if e != api.OK || got.Recs[i].V[0] != want {
				t.Errorf("Modify to %v: record %d is %v", c.f, i, got.Recs[i].V[0])
			}
		}
	}
	_, e1 := table.Modify(api.Table{Page: 9}, nil)
	_, e2 := table.Modify(s, nil)
	_, e3 := table.Modify(s, nf(17, s.Fields[0]))
	if e1 != api.ErrArg || e2 != api.ErrArg || e3 != api.ErrLarge {
		t.Error(e1, e2, e3)
	}
}

func TestIndex(t *testing.T) {
	l := sample().Fields
	if i, ok := table.Index(l, "BORN"); i != 2 || !ok {
		t.Error("Index", i, ok)
	}
	if i, ok := table.Index(l, "born"); i != 0 || ok {
		t.Error("Index of a name that is none", i, ok)
	}
}
