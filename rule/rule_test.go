package rule_test

import (
	"math/rand"
	"reflect"
	"slices"
	"strings"
	"sync"
	"testing"

	"cabinetry/api"
	"cabinetry/rule"
	"cabinetry/table"
	"cabinetry/val"
)

func num(n int) api.Value     { return api.Value{Kind: api.Num, N: n} }
func text(s string) api.Value { return api.Value{Kind: api.Text, S: s} }

// customers and orders: C has a key ID and a reference BOSS to itself; O has a reference CUST and an amount.
func customers(l ...[2]int) api.Table {
	t := api.Table{Fields: []api.Field{{Name: "ID", Kind: api.Num, Width: 5}, {Name: "BOSS", Kind: api.Num, Width: 5, Null: true}, {Name: "NAME", Kind: api.Text, Width: 4}}}
	for _, p := range l {
		r := api.Record{V: []api.Value{num(p[0]), num(p[1]), text("x")}}
		if p[1] == 0 {
			r.V[1] = api.Value{}
		}
		t.Recs = append(t.Recs, r)
	}
	return t
}

func orders(l ...int) api.Table {
	t := api.Table{Fields: []api.Field{{Name: "CUST", Kind: api.Num, Width: 5, Null: true}, {Name: "SUM", Kind: api.Num, Width: 5}, {Name: "MUST", Kind: api.Num, Width: 5}, {Name: "SHORT", Kind: api.Num, Width: 4}, {Name: "M", Kind: api.Memo, Width: 8}}}
	for i, c := range l {
		t.Recs = append(t.Recs, api.Record{V: []api.Value{num(c), num(i), num(c), num(0), num(0)}})
	}
	return t
}

func base(t *testing.T, c, o api.Table, rules ...api.Rule) *rule.Base {
	t.Helper()
	b, e := rule.New([]string{"C", "O"}, []api.Table{c, o})
	if e != api.OK {
		t.Fatal(e)
	}
	for i, r := range rules {
		if e := b.Add(r); e != api.OK {
			t.Fatal("Add", i, e)
		}
	}
	return b
}

func idKey() api.Rule { return api.Rule{Kind: 3, Table: "C", Name: "ID"} }

func ref(name string, mode int) api.Rule {
	return api.Rule{Kind: 4, Table: "O", Name: name, Other: "C", Key: "ID", Mode: mode}
}

// shown is a table as its records' values.
func shown(b *rule.Base, name string, fields int) string {
	t, _ := b.Table(name)
	var out []string
	for _, r := range t.Recs {
		s := ""
		if r.Gone {
			s = "-"
		}
		for i, v := range r.V[:fields] {
			one, _ := val.Show(v)
			s += strings.Repeat(",", min(i, 1)) + one
		}
		out = append(out, s)
	}
	return strings.Join(out, " ")
}

func why(t *testing.T, b *rule.Base, n int, name string) {
	t.Helper()
	if k, s := b.Why(); k != n || s != name {
		t.Errorf("Why: %d %q, want %d %q", k, s, n, name)
	}
}

// P16.1
func TestNewErrors(t *testing.T) {
	c := customers()
	for i, x := range []struct {
		names  []string
		tables []api.Table
		e      api.Errno
	}{{[]string{"A"}, nil, api.ErrFit}, {[]string{"A", "b"}, []api.Table{{}, {}}, api.ErrArg}, {[]string{"A", "A"}, []api.Table{{}, {}}, api.ErrTwice}, {[]string{"A", "B"}, []api.Table{c, {Page: 7}}, api.ErrArg}, {nil, nil, api.OK}} {
		if b, e := rule.New(x.names, x.tables); e != x.e || (b == nil) == (e == api.OK) {
			t.Errorf("New %d: %d", i, e)
		}
	}
}

func TestAddErrors(t *testing.T) {
	b := base(t, customers([2]int{1, 0}, [2]int{2, 1}), orders(1, 2, 9), idKey())
	b.Delete("O", 3)
	for i, c := range []struct {
		r api.Rule
		e api.Errno
	}{
		{api.Rule{Table: "X", Kind: 9}, api.ErrNone}, {api.Rule{Table: "C", Name: "X", Kind: 9}, api.ErrNone}, {api.Rule{Table: "C", Name: "ID", Kind: 9}, api.ErrArg}, {api.Rule{Table: "C", Name: "ID", Kind: -1}, api.ErrArg}, {api.Rule{Table: "C", Kind: 1}, api.ErrArg}, {api.Rule{Table: "C", Kind: 1, Name: "a", Text: "("}, api.ErrArg},
		{api.Rule{Kind: 4, Table: "O", Name: "CUST", Other: "X", Key: "ID"}, api.ErrNone}, {api.Rule{Kind: 4, Table: "O", Name: "CUST", Other: "C", Key: "X", Mode: 5}, api.ErrNone}, {api.Rule{Kind: 4, Table: "O", Name: "CUST", Other: "C", Key: "ID", Mode: 3}, api.ErrArg}, {api.Rule{Kind: 4, Table: "O", Name: "CUST", Other: "C", Key: "ID", Text: "1"}, api.ErrArg},
		{api.Rule{Table: "C", Name: "ID", Text: "1", Mode: 1}, api.ErrArg}, {api.Rule{Table: "C", Name: "ID", Text: "1", Other: "C"}, api.ErrArg}, {api.Rule{Table: "C", Name: "ID", Text: "1", Key: "X"}, api.ErrArg}, {api.Rule{Kind: 3, Table: "C", Name: "NAME", Text: "1"}, api.ErrArg},
		{api.Rule{Kind: 2, Table: "C", Name: "ID", Text: "id"}, api.ErrArg}, {api.Rule{Kind: 2, Table: "C", Name: "ID", Text: "recno()"}, api.ErrArg}, {api.Rule{Kind: 2, Table: "C", Name: "ID", Text: "deleted()"}, api.ErrArg}, {api.Rule{Kind: 2, Table: "C", Name: "ID", Text: "1 / 0"}, api.OK}, {api.Rule{Kind: 2, Table: "C", Name: "ID", Text: "2"}, api.ErrTwice},
		{api.Rule{Table: "C", Name: "ID"}, api.ErrSyntax}, {api.Rule{Table: "C", Name: "ID", Text: "("}, api.ErrSyntax}, {api.Rule{Kind: 1, Table: "C", Name: "ROW", Text: "+"}, api.ErrSyntax}, {api.Rule{Kind: 2, Table: "C", Name: "ID", Text: "("}, api.ErrSyntax},
		{idKey(), api.ErrTwice}, {ref("SHORT", 0), api.ErrType}, {api.Rule{Kind: 4, Table: "C", Name: "NAME", Other: "C", Key: "ID"}, api.ErrType}, {api.Rule{Kind: 4, Table: "O", Name: "M", Other: "O", Key: "M"}, api.ErrType}, {api.Rule{Kind: 4, Table: "O", Name: "CUST", Other: "C", Key: "BOSS"}, api.ErrState},
		{api.Rule{Table: "C", Name: "ID", Text: "id > 1"}, api.ErrRule}, {api.Rule{Table: "C", Name: "ID", Text: "x"}, api.ErrRule}, {api.Rule{Table: "C", Name: "ID", Text: ".null."}, api.OK}, {api.Rule{Table: "C", Name: "ID", Text: "5"}, api.OK}, {api.Rule{Kind: 3, Table: "C", Name: "NAME"}, api.ErrRule}, {api.Rule{Kind: 3, Table: "C", Name: "BOSS"}, api.ErrRule},
		{ref("SUM", 0), api.ErrRule}, {ref("CUST", 1), api.OK}, {ref("CUST", 2), api.ErrTwice}, {api.Rule{Kind: 4, Table: "C", Name: "BOSS", Other: "C", Key: "ID"}, api.OK},
	} {
		if e := b.Add(c.r); e != c.e {
			t.Errorf("Add %d: %d, want %d", i, e, c.e)
		}
	}
	for e := api.OK; e == api.OK; {
		e = b.Add(api.Rule{Kind: 1, Table: "C", Name: "ROW", Text: ".t."})
		if e != api.OK && (e != api.ErrLarge || len(b.Rules()) != 40) {
			t.Error("too many", e, len(b.Rules()))
		}
	}
	if e := b.Add(api.Rule{Kind: 1, Table: "C", Name: "ROW", Text: ".f."}); e != api.ErrLarge {
		t.Error(e)
	}
	for _, c := range []struct {
		k int
		e api.Errno
	}{{-1, api.ErrNone}, {40, api.ErrNone}, {0, api.ErrState}, {39, api.OK}} {
		if e := b.Drop(c.k); e != c.e {
			t.Errorf("Drop %d: %d", c.k, e)
		}
	}
	if l := b.Rules(); len(l) != 39 || l[0] != idKey() {
		t.Error("Rules", l[0])
	}
}

// The name of a check of a row is a name of chapter 6, which may begin with _; that of a table is one of a field, which may not.
func TestNameOfRowCheck(t *testing.T) {
	if _, e := rule.New([]string{"_"}, []api.Table{customers()}); e != api.ErrArg {
		t.Error("New", e)
	}
	b := base(t, customers([2]int{1, 0}), orders())
	for _, c := range []struct {
		name, text string
		e          api.Errno
	}{
		{"_", "", api.ErrSyntax}, {"_", "id", api.OK}, {"_A1", "id > 0", api.OK}, {"_ABCDEFGH9", "id < 9", api.OK}, {"_", "id > 5", api.ErrRule},
		{"_ABCDEFGHIJ", "id", api.ErrArg}, {"_a", "id", api.ErrArg}, {"1A", "id", api.ErrArg}, {"", "", api.ErrArg}, {"_ ", "id", api.ErrArg},
	} {
		if e := b.Add(api.Rule{Kind: 1, Table: "C", Name: c.name, Text: c.text}); e != c.e {
			t.Errorf("Add of a check %q %q: %d, not %d", c.name, c.text, e, c.e)
		}
	}
	why(t, b, 3, "_")
	if _, e := b.Update("C", 1, []string{"ID"}, []api.Value{num(0)}); e != api.ErrRule {
		t.Error("Update", e)
	}
	why(t, b, 1, "_A1")
}

// P16.2
func TestInsert(t *testing.T) {
	b := base(t, customers(), orders(), api.Rule{Kind: 2, Table: "O", Name: "SUM", Text: "3 * 4"}, api.Rule{Kind: 2, Table: "O", Name: "MUST", Text: "1 / 0"}, api.Rule{Kind: 2, Table: "O", Name: "SHORT", Text: "99999"}, api.Rule{Kind: 2, Table: "C", Name: "BOSS", Text: "1 / 0"}, api.Rule{Table: "O", Name: "SUM", Text: "sum < 50"})
	if n, e := b.Insert("O", nil, nil); n != 1 || e != api.OK || shown(b, "O", 5) != "NIL,12,0,0,0" {
		t.Error(n, e, shown(b, "O", 5))
	}
	if n, e := b.Insert("O", []string{"SUM", "CUST"}, []api.Value{num(5), num(6)}); n != 2 || e != api.OK || !strings.HasSuffix(shown(b, "O", 3), " 6,5,0") {
		t.Error(n, e, shown(b, "O", 3))
	}
	if n, e := b.Insert("C", []string{"NAME"}, []api.Value{text("longer")}); n != 1 || e != api.OK || shown(b, "C", 3) != "0,0,long" {
		t.Error(n, e, shown(b, "C", 3))
	}
	for i, c := range []struct {
		name   string
		fields []string
		l      []api.Value
		e      api.Errno
	}{
		{"X", nil, nil, api.ErrNone}, {"O", []string{"X"}, nil, api.ErrNone}, {"O", []string{"SUM", "SUM"}, nil, api.ErrFit}, {"O", []string{"SUM", "SUM"}, make([]api.Value, 2), api.ErrTwice}, {"O", []string{"SUM", "MUST"}, []api.Value{text("x"), {}}, api.ErrType}, {"O", []string{"SUM"}, []api.Value{{}}, api.ErrRule}, {"O", []string{"SHORT"}, []api.Value{num(99999)}, api.ErrFit},
		{"O", []string{"SUM"}, []api.Value{num(50)}, api.ErrRule},
	} {
		if n, e := b.Insert(c.name, c.fields, c.l); n != 0 || e != c.e {
			t.Errorf("Insert %d: %d %d, want %d", i, n, e, c.e)
		}
		if c.e == api.ErrRule && i == 5 {
			why(t, b, -1, "")
		}
	}
	why(t, b, 4, "SUM")
	full := orders(make([]int, 300)...)
	if _, e := base(t, customers(), full).Insert("O", nil, nil); e != api.ErrLarge {
		t.Error("full", e)
	}
}

func TestUpdateAndDelete(t *testing.T) {
	b := base(t, customers([2]int{1, 0}, [2]int{2, 0}), orders(1), idKey(), api.Rule{Kind: 1, Table: "C", Name: "ROW", Text: "id <> boss"})
	if n, e := b.Update("C", 1, []string{"NAME", "BOSS"}, []api.Value{text("ab"), num(2)}); n != 1 || e != api.OK || shown(b, "C", 3) != "1,2,ab 2,NIL,x" {
		t.Error(n, e, shown(b, "C", 3))
	}
	for i, c := range []struct {
		name   string
		k      int
		fields []string
		l      []api.Value
		e      api.Errno
	}{
		{"X", 1, nil, nil, api.ErrNone}, {"C", 0, nil, nil, api.ErrNone}, {"C", 3, nil, nil, api.ErrNone}, {"C", 1, []string{"X"}, nil, api.ErrNone}, {"C", 1, []string{"ID"}, nil, api.ErrFit}, {"C", 1, []string{"ID", "ID"}, make([]api.Value, 2), api.ErrTwice}, {"C", 1, []string{"ID"}, []api.Value{text("a")}, api.ErrType},
		{"C", 1, []string{"ID"}, []api.Value{num(2)}, api.ErrRule}, {"C", 2, []string{"BOSS"}, []api.Value{num(2)}, api.ErrRule},
	} {
		if n, e := b.Update(c.name, c.k, c.fields, c.l); n != 0 || e != c.e {
			t.Errorf("Update %d: %d %d, want %d", i, n, e, c.e)
		}
		if i == 7 {
			why(t, b, 0, "ID")
		}
	}
	why(t, b, 1, "ROW")
	if n, e := b.Delete("C", 2); n != 1 || e != api.OK {
		t.Error(n, e)
	}
	_, e1 := b.Delete("C", 2)
	_, e2 := b.Update("C", 2, nil, nil)
	_, e3 := b.Delete("X", 1)
	if e1 != api.ErrNone || e2 != api.ErrNone || e3 != api.ErrNone {
		t.Error(e1, e2, e3)
	}
	if _, e := b.Update("C", 1, []string{"ID", "BOSS"}, []api.Value{num(2), num(9)}); e != api.OK {
		t.Error("the key of a record that is gone", e)
	}
}

// P16.3
func TestModes(t *testing.T) {
	for mode, c := range []struct {
		del, upd       api.Errno
		afterD, afterU string
		n              int
	}{
		{api.ErrRule, api.ErrRule, "1,0 2,1 1,2", "1,0 2,1 1,2", 0}, {api.OK, api.OK, "-1,0 2,1 -1,2", "7,0 2,1 7,2", 3}, {api.OK, api.OK, "NIL,0 2,1 NIL,2", "NIL,0 2,1 NIL,2", 3},
	} {
		make1 := func() *rule.Base {
			return base(t, customers([2]int{1, 0}, [2]int{2, 0}), orders(1, 2, 1), idKey(), ref("CUST", mode))
		}
		b := make1()
		n, e := b.Delete("C", 1)
		if n != c.n || e != c.del || shown(b, "O", 2) != c.afterD {
			t.Errorf("mode %d: Delete: %d %d %s", mode, n, e, shown(b, "O", 2))
		}
		b = make1()
		n, e = b.Update("C", 1, []string{"ID"}, []api.Value{num(7)})
		if n != c.n || e != c.upd || shown(b, "O", 2) != c.afterU {
			t.Errorf("mode %d: Update: %d %d %s", mode, n, e, shown(b, "O", 2))
		}
		if mode == 0 {
			why(t, b, 1, "CUST")
		}
		if l, ok := b.Check(); len(l) > 0 || !ok {
			t.Error("Check", l)
		}
		if n, e := b.Update("C", 1, []string{"NAME"}, []api.Value{text("y")}); n != 1 || e != api.OK {
			t.Error("a change of another field", n, e)
		}
	}
}

func TestForgetWhatMustBeThere(t *testing.T) {
	b := base(t, customers([2]int{1, 0}), orders(1), idKey(), ref("CUST", 2), ref("MUST", 2))
	before := b.Copy()
	if _, e := b.Delete("C", 1); e != api.ErrRule || !rule.Same(before, b) {
		t.Error(e)
	}
	why(t, b, 2, "MUST")
}

// All references with the mode 0 are asked first, whatever their place.
func TestRefusalFirst(t *testing.T) {
	b := base(t, customers([2]int{1, 0}), orders(1), idKey(), ref("CUST", 2), ref("MUST", 0))
	if _, e := b.Delete("C", 1); e != api.ErrRule {
		t.Error(e)
	}
	why(t, b, 2, "MUST")
}

func bosses(mode int) api.Rule {
	return api.Rule{Kind: 4, Table: "C", Name: "BOSS", Other: "C", Key: "ID", Mode: mode}
}

func TestSelfReference(t *testing.T) {
	b := base(t, customers([2]int{1, 1}, [2]int{2, 1}, [2]int{3, 2}, [2]int{4, 0}), orders(3, 4), idKey(), bosses(1), ref("CUST", 1))
	c := b.Copy()
	if n, e := b.Delete("C", 1); n != 4 || e != api.OK || shown(b, "C", 2) != "-1,1 -2,1 -3,2 4,NIL" || shown(b, "O", 1) != "-3 4" {
		t.Error(n, e, shown(b, "C", 2), shown(b, "O", 1))
	}
	if n, e := c.Update("C", 1, []string{"ID"}, []api.Value{num(9)}); n != 2 || e != api.OK || shown(c, "C", 2) != "9,9 2,9 3,2 4,NIL" {
		t.Error(n, e, shown(c, "C", 2))
	}
	d := base(t, customers([2]int{1, 1}), orders(), idKey(), bosses(0))
	if _, e := d.Update("C", 1, []string{"ID"}, []api.Value{num(2)}); e != api.ErrRule {
		t.Error("the record refers to itself", e)
	}
	if n, e := d.Update("C", 1, []string{"ID", "BOSS"}, []api.Value{num(2), num(2)}); n != 1 || e != api.OK {
		t.Error("the record does not refer to its old key any more", n, e)
	}
	if n, e := d.Delete("C", 1); n != 1 || e != api.OK {
		t.Error("a record that is gone refers to nothing", n, e)
	}
}

func TestTooDeep(t *testing.T) {
	chain := customers([2]int{1, 0})
	for i := 2; i <= 201; i++ {
		chain.Recs = append(chain.Recs, customers([2]int{i, i - 1}).Recs...)
	}
	b := base(t, chain, orders(), idKey(), bosses(1))
	before := b.Copy()
	if _, e := b.Delete("C", 1); e != api.ErrLarge || !rule.Same(before, b) {
		t.Error(e)
	}
	if n, e := b.Delete("C", 2); n != 200 || e != api.OK {
		t.Error(n, e)
	}
}

// A key that is a reference too takes those along that refer to it.
func TestChainOfKeys(t *testing.T) {
	c := customers([2]int{1, 1}, [2]int{2, 2})
	b := base(t, c, orders(1, 2), idKey(), api.Rule{Kind: 3, Table: "C", Name: "BOSS"}, bosses(1), api.Rule{Kind: 4, Table: "O", Name: "CUST", Other: "C", Key: "BOSS", Mode: 1}, api.Rule{Table: "O", Name: "CUST", Text: "cust < 9"})
	if n, e := b.Update("C", 1, []string{"ID"}, []api.Value{num(5)}); n != 2 || e != api.OK || shown(b, "C", 2) != "5,5 2,2" || shown(b, "O", 1) != "5 2" {
		t.Error(n, e, shown(b, "C", 2), shown(b, "O", 1))
	}
	before := b.Copy()
	if _, e := b.Update("C", 1, []string{"ID"}, []api.Value{num(9)}); e != api.ErrRule || !rule.Same(before, b) {
		t.Error(e)
	}
	why(t, b, 4, "CUST")
}

// P16.4
func TestView(t *testing.T) {
	b := base(t, customers([2]int{1, 0}, [2]int{2, 1}, [2]int{3, 1}), orders(), idKey())
	b.Delete("C", 3)
	recs, values, e := b.View("C", "id > 1", []string{"BOSS", "ID"})
	if !slices.Equal(recs, []int{2}) || !reflect.DeepEqual(values, [][]api.Value{{num(1), num(2)}}) || e != api.OK {
		t.Error(recs, values, e)
	}
	recs, values, e = b.View("C", "", nil)
	if !slices.Equal(recs, []int{1, 2}) || len(values[0]) != 3 || e != api.OK {
		t.Error(recs, values, e)
	}
	if recs, _, e := b.View("C", "1 / boss = 1", nil); !slices.Equal(recs, []int{2}) || e != api.OK {
		t.Error(recs, e)
	}
	for i, c := range []struct {
		name, cond string
		fields     []string
		e          api.Errno
	}{{"X", "(", nil, api.ErrNone}, {"C", "(", []string{"X"}, api.ErrNone}, {"C", "(", nil, api.ErrSyntax}} {
		if _, _, e := b.View(c.name, c.cond, c.fields); e != c.e {
			t.Errorf("View %d: %d", i, e)
		}
	}
	for i, c := range []struct {
		name, cond string
		k          int
		field      string
		v          api.Value
		e          api.Errno
	}{
		{"X", "(", 1, "ID", num(5), api.ErrNone}, {"C", "(", 9, "ID", num(5), api.ErrSyntax}, {"C", "id > 1", 1, "X", num(5), api.ErrNone}, {"C", "", 3, "ID", num(5), api.ErrNone}, {"C", "", 0, "ID", num(5), api.ErrNone}, {"C", "id > 1", 2, "X", num(5), api.ErrNone}, {"C", "id > 1", 2, "ID", text("a"), api.ErrType},
		{"C", "id > 1", 2, "ID", num(1), api.ErrRule}, {"C", "", 2, "ID", num(1), api.ErrRule}, {"C", "id > 1", 2, "ID", num(0), api.ErrRule}, {"C", "id > 1", 2, "ID", num(5), api.OK},
	} {
		n, e := b.UpdateView(c.name, c.cond, c.k, []string{c.field}, []api.Value{c.v})
		if e != c.e || (n == 1) != (e == api.OK) {
			t.Errorf("UpdateView %d: %d %d, want %d", i, n, e, c.e)
		}
		switch i {
		case 7, 8:
			why(t, b, 0, "ID")
		case 9:
			why(t, b, -1, "")
		}
	}
}

func TestCopyAndSame(t *testing.T) {
	b := base(t, customers([2]int{1, 0}), orders(), idKey())
	c := b.Copy()
	if !rule.Same(b, c) || !rule.Same(b, b) {
		t.Error("a copy is equal")
	}
	c.Update("C", 1, []string{"NAME"}, []api.Value{text("y")})
	if rule.Same(b, c) || shown(b, "C", 3) != "1,NIL,x" {
		t.Error("a copy is its own")
	}
	d := b.Copy()
	d.Drop(0)
	if rule.Same(b, d) {
		t.Error("rules")
	}
	tab, _ := b.Table("C")
	tab.Recs[0].V[0] = num(5)
	if shown(b, "C", 1) != "1" {
		t.Error("memory is shared")
	}
	if _, e := b.Table("X"); e != api.ErrNone {
		t.Error(e)
	}
}

func TestNil(t *testing.T) {
	for _, b := range []*rule.Base{nil, {}} {
		_, e1 := b.Table("C")
		_, e2 := b.Insert("C", nil, nil)
		_, e3 := b.Update("C", 1, nil, nil)
		_, e4 := b.Delete("C", 1)
		_, _, e5 := b.View("C", "", nil)
		_, e6 := b.UpdateView("C", "", 1, nil, nil)
		for i, e := range []api.Errno{e1, e2, e3, e4, e5, e6, b.Add(api.Rule{}), b.Drop(0)} {
			if e != api.ErrState {
				t.Errorf("method %d of nil: %d", i, e)
			}
		}
		n, s := b.Why()
		l, ok := b.Check()
		if n != 0 || s != "" || l != nil || ok || b.Rules() != nil || b.Copy() != nil || !rule.Same(b, nil) || rule.Same(b, base(t, customers(), orders())) {
			t.Error("nil")
		}
	}
}

// The rules hold after each change, and a refused one changes nothing.
func TestRulesHold(t *testing.T) {
	for seed := range 60 {
		r := rand.New(rand.NewSource(int64(seed)))
		b := base(t, customers([2]int{1, 0}, [2]int{2, 1}, [2]int{3, 2}, [2]int{4, 1}), orders(1, 2, 3, 4, 1), idKey(), bosses(r.Intn(3)), ref("CUST", r.Intn(3)), ref("MUST", r.Intn(2)), api.Rule{Kind: 1, Table: "O", Name: "ROW", Text: "sum < 8 .or. cust > 2"}, api.Rule{Table: "C", Name: "ID", Text: "id < 7"})
		done := 0
		for range 80 {
			before := b.Copy()
			var e api.Errno
			n := 0
			v := []api.Value{num(1 + r.Intn(8)), num(1 + r.Intn(8))}
			switch r.Intn(6) {
			case 0:
				n, e = b.Insert("C", []string{"ID", "BOSS"}, v)
			case 1:
				n, e = b.Insert("O", []string{"CUST", "MUST"}, v)
			case 2:
				n, e = b.Update("C", 1+r.Intn(5), []string{"ID"}, v[:1])
			case 3:
				n, e = b.Update("O", 1+r.Intn(6), []string{"CUST", "SUM"}, v)
			case 4:
				n, e = b.Delete("C", 1+r.Intn(5))
			default:
				n, e = b.Delete("O", 1+r.Intn(6))
			}
			if e != api.OK && (n != 0 || !rule.Same(before, b)) || e == api.OK && n < 1 {
				t.Fatal("an error has changed the container", n, e)
			}
			if l, ok := b.Check(); len(l) > 0 || !ok {
				t.Fatal("Check", l)
			}
			for _, name := range []string{"C", "O"} {
				if tab, _ := b.Table(name); table.Validate(tab) != api.OK {
					t.Fatal("no table")
				}
			}
			if e == api.OK {
				done++
			}
		}
		if done == 0 {
			t.Error("nothing was done")
		}
	}
}

func TestManyGoroutines(t *testing.T) {
	b := base(t, customers([2]int{1, 0}), orders(), idKey(), ref("CUST", 1))
	var wait sync.WaitGroup
	for range 4 {
		wait.Go(func() {
			for i := range 20 {
				b.Insert("O", []string{"CUST"}, []api.Value{num(1)})
				b.Update("C", 1, []string{"ID"}, []api.Value{num(i + 2)})
				b.View("O", "cust > 1", nil)
				b.Why()
				rule.Same(b, b.Copy())
			}
		})
	}
	wait.Wait()
	if _, ok := b.Check(); !ok {
		t.Error("Check")
	}
}
