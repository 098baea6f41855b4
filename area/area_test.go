package area_test

import (
	"math"
	"math/rand"
	"reflect"
	"slices"
	"strings"
	"sync"
	"testing"

	"cabinetry/api"
	"cabinetry/area"
	"cabinetry/key"
	"cabinetry/tree"
)

func num(n int) api.Value     { return api.Value{Kind: api.Num, N: n} }
func text(s string) api.Value { return api.Value{Kind: api.Text, S: s} }

// people has records of a name and an age; a name that begins with - is gone.
func people(l ...any) api.Table {
	t := api.Table{Fields: []api.Field{{Name: "NAME", Kind: api.Text, Width: 6}, {Name: "AGE", Kind: api.Num, Width: 3}}}
	for i := 0; i < len(l); i += 2 {
		name, gone := strings.CutPrefix(l[i].(string), "-")
		t.Recs = append(t.Recs, api.Record{Gone: gone, V: []api.Value{text(name), num(l[i+1].(int))}})
	}
	return t
}

func desk(t *testing.T, tables map[string]api.Table, areas ...string) *area.Desk {
	t.Helper()
	var names []string
	var list []api.Table
	for name, tab := range tables {
		names, list = append(names, name), append(list, tab)
	}
	d, e := area.New(names, list)
	ok(t, e)
	for _, a := range areas {
		tab, alias, both := strings.Cut(a, " ")
		if !both {
			alias = tab
		}
		ok(t, d.Open(tab, alias))
	}
	return d
}

func ok(t *testing.T, e api.Errno) {
	t.Helper()
	if e != api.OK {
		t.Fatal("error", e)
	}
}

func at(t *testing.T, d *area.Desk, alias string, rec int, bof, eof bool) {
	t.Helper()
	if k, b, e, err := d.Where(alias); k != rec || b != bof || e != eof || err != api.OK {
		t.Errorf("%s is at %d %v %v (%d), want %d %v %v", alias, k, b, e, err, rec, bof, eof)
	}
}

func rowIs(t *testing.T, d *area.Desk, alias string, want ...int) {
	t.Helper()
	if l, e := d.Row(alias); !slices.Equal(l, want) || e != api.OK {
		t.Errorf("the row of %s: %v %d, want %v", alias, l, e, want)
	}
}

// P14.1
func TestNewAndOpen(t *testing.T) {
	p := people("a", 1)
	for i, c := range []struct {
		names  []string
		tables []api.Table
		e      api.Errno
	}{
		{[]string{"A"}, nil, api.ErrFit}, {[]string{"A", "a"}, []api.Table{{}, {}}, api.ErrArg}, {[]string{"A", "A"}, []api.Table{{}, {}}, api.ErrTwice}, {[]string{"A", "B"}, []api.Table{p, {Page: 9}}, api.ErrArg}, {[]string{"A"}, []api.Table{{Fields: p.Fields, Recs: make([]api.Record, 301)}}, api.ErrLarge},
		{[]string{"A", "B", "C", "D", "E", "F", "G"}, []api.Table{p, p, p, p, p, p, p}, api.ErrLarge}, {[]string{"A", "B", "C", "D", "E", "F"}, []api.Table{p, p, p, p, p, p}, api.OK}, {nil, nil, api.OK},
	} {
		if d, e := area.New(c.names, c.tables); e != c.e || (d == nil) == (e == api.OK) {
			t.Errorf("New %d: %d", i, e)
		}
	}
	d := desk(t, map[string]api.Table{"P": p, "Q": people()})
	for i, c := range []struct {
		tab, alias string
		e          api.Errno
	}{{"X", "b", api.ErrArg}, {"X", "B", api.ErrNone}, {"P", "B", api.OK}, {"Q", "B", api.ErrTwice}, {"Q", "A", api.OK}, {"P", "C", api.OK}, {"P", "D", api.OK}, {"P", "E", api.OK}, {"P", "F", api.OK}, {"P", "A", api.ErrTwice}, {"P", "G", api.ErrLarge}} {
		if e := d.Open(c.tab, c.alias); e != c.e {
			t.Errorf("Open %d: %d", i, e)
		}
	}
	at(t, d, "B", 1, false, false)
	at(t, d, "A", 1, false, true)
	if !slices.Equal(d.Aliases(), []string{"A", "B", "C", "D", "E", "F"}) {
		t.Error(d.Aliases())
	}
	if d.Close("X") != api.ErrNone || d.Close("C") != api.OK || d.Close("C") != api.ErrNone || len(d.Aliases()) != 5 {
		t.Error("Close")
	}
	ok(t, d.Tag("B", api.Tag{Name: "AGE", Key: "age"}))
	if tab, order, n, e := d.About("E"); tab != "P" || order != "" || n != 0 || e != api.OK {
		t.Error("About")
	}
	for i, e := range []api.Errno{d.Tag("B", api.Tag{Name: "AGE", Key: "age"}), d.Order("E", "X"), d.Filter("E", "("), d.Order("A", "AGE")} {
		if want := []api.Errno{api.ErrTwice, api.ErrNone, api.ErrSyntax, api.ErrNone}[i]; e != want {
			t.Errorf("case %d: %d", i, e)
		}
	}
	ok(t, d.Order("E", "AGE"))
	ok(t, d.Order("E", ""))
}

// An alias is a name of chapter 6, which may begin with _; the name of a table is one of a field, which may not.
func TestAliasIsAName(t *testing.T) {
	if _, e := area.New([]string{"_"}, []api.Table{people()}); e != api.ErrArg {
		t.Error("New", e)
	}
	d := desk(t, map[string]api.Table{"P": people("a", 5), "Q": people("b", 7, "c", 8)})
	for _, c := range []struct {
		tab, alias string
		e          api.Errno
	}{
		{"", "_", api.ErrNone}, {"_", "_", api.ErrNone}, {"P", "_", api.OK}, {"Q", "_0", api.OK}, {"Q", "_", api.ErrTwice}, {"P", "_ABCDEFGH9", api.OK},
		{"P", "_ABCDEFGHIJ", api.ErrArg}, {"P", "", api.ErrArg}, {"P", "0", api.ErrArg}, {"P", "_a", api.ErrArg}, {"P", "A ", api.ErrArg}, {"P", "_.", api.ErrArg},
	} {
		if e := d.Open(c.tab, c.alias); e != c.e {
			t.Errorf("Open %q %q: %d, not %d", c.tab, c.alias, e, c.e)
		}
	}
	if l := d.Aliases(); !slices.Equal(l, []string{"_", "_0", "_ABCDEFGH9"}) {
		t.Error(l)
	}
	ok(t, d.Relate("_", "age - 3", "_0"))
	at(t, d, "_0", 2, false, false)
	if v, why, e := d.Eval("_", "_0->age + _->age"); v != num(13) || why != 0 || e != api.OK {
		t.Error("Eval", v, why, e)
	}
	if _, why, e := d.Eval("_", "_0->age + _1"); why != api.DieName || e != api.OK {
		t.Error("Eval of a name that there is not", why, e)
	}
	ok(t, d.Close("_0"))
	if _, why, e := d.Eval("_", "_0->age"); why != api.DieName || e != api.OK {
		t.Error("Eval behind Close", why, e)
	}
}

func TestErrNoneFirst(t *testing.T) {
	for i, c := range []struct {
		d *area.Desk
		e api.Errno
	}{{desk(t, map[string]api.Table{"P": people()}), api.ErrNone}, {nil, api.ErrState}, {&area.Desk{}, api.ErrState}} {
		d := c.d
		_, _, _, e1 := d.Where("X")
		_, e2 := d.Seek("X", api.Value{N: 1}, true)
		_, e3 := d.Row("X")
		_, _, e4 := d.Eval("X", "(")
		_, _, e5 := d.Value("X", api.Expr{Op: -1})
		_, _, _, e6 := d.About("X")
		_, e7 := d.Append("X")
		_, e8 := d.Pack("X")
		_, e9 := d.Zap("X")
		_, e10 := d.Pairs("X")
		_, e11 := d.Table("X")
		for j, e := range []api.Errno{e1, e2, e3, e4, e5, e6, e7, e8, e9, e10, e11, d.Close("X"), d.Tag("X", api.Tag{}), d.Order("X", "?"), d.Filter("X", "("), d.Relate("X", "(", "Y"), d.Unrelate("X"), d.Go("X", -1), d.Top("X"), d.Bottom("X"), d.Skip("X", 0), d.Skip("X", 1), d.Set("X", nil, nil), d.Mark("X", true)} {
			if e != c.e {
				t.Errorf("desk %d, method %d: %d", i, j, e)
			}
		}
		if i > 0 && (d.Open("", "") != api.ErrState || d.Switch(true, true) != api.ErrState || d.Aliases() != nil || d.Copy() != nil || d.Become(desk(t, nil)) != api.ErrState || !area.Same(d, nil) || area.Same(d, desk(t, nil))) {
			t.Error("nil")
		}
	}
}

// P14.2
func TestMoves(t *testing.T) {
	d := desk(t, map[string]api.Table{"P": people("c", 1, "a", 2, "-d", 3, "b", 4)}, "P")
	ok(t, d.Tag("P", api.Tag{Name: "NAME", Key: "name"}))
	move := func(e api.Errno, rec int, bof, eof bool) {
		t.Helper()
		ok(t, e)
		at(t, d, "P", rec, bof, eof)
	}
	move(d.Skip("P", 1), 2, false, false)
	move(d.Skip("P", 5), 5, false, true)
	move(d.Skip("P", 1), 5, false, true)
	move(d.Skip("P", -1), 4, false, false)
	move(d.Skip("P", -9), 1, true, false)
	move(d.Skip("P", 0), 1, true, false)
	move(d.Go("P", 1), 1, false, false)
	move(d.Skip("P", math.MinInt), 1, true, false)
	move(d.Skip("P", math.MaxInt), 5, false, true)
	move(d.Top("P"), 1, false, false)
	move(d.Bottom("P"), 4, false, false)
	for _, k := range []int{0, -1, 5} {
		if d.Go("P", k) != api.ErrArg {
			t.Error("Go", k)
		}
	}
	ok(t, d.Order("P", "NAME"))
	at(t, d, "P", 4, false, false)
	rowIs(t, d, "P", 2, 4, 1, 3)
	move(d.Skip("P", 1), 1, false, false)
	move(d.Skip("P", -2), 2, false, false)
	move(d.Bottom("P"), 3, false, false)
	ok(t, d.Switch(false, true))
	rowIs(t, d, "P", 2, 4, 1)
	at(t, d, "P", 3, false, false)
	move(d.Skip("P", -1), 1, false, false)
	move(d.Go("P", 3), 3, false, false)
	move(d.Skip("P", 1), 5, false, true)
	ok(t, d.Filter("P", "age > 1 .and. recno() <> 3"))
	rowIs(t, d, "P", 2, 4)
	move(d.Skip("P", -1), 4, false, false)
	move(d.Go("P", 1), 1, false, false)
	move(d.Skip("P", -1), 4, false, false)
	move(d.Top("P"), 2, false, false)
	ok(t, d.Filter("P", "age > 9"))
	at(t, d, "P", 2, false, false)
	move(d.Top("P"), 5, true, true)
	move(d.Go("P", 2), 2, false, false)
	move(d.Bottom("P"), 5, true, true)
	move(d.Go("P", 2), 2, false, false)
	move(d.Skip("P", -1), 5, true, true)
	move(d.Skip("P", 1), 5, false, true)
	ok(t, d.Filter("P", "x"))
	rowIs(t, d, "P")
	ok(t, d.Filter("P", ""))
	rowIs(t, d, "P", 2, 4, 1)
}

// A record without an entry has a place, and one whose key dies stands at the end.
func TestPlaces(t *testing.T) {
	d := desk(t, map[string]api.Table{"P": people("c", 1, "a", 2, "d", 3, "b", 0)}, "P")
	ok(t, d.Tag("P", api.Tag{Name: "F", Key: "name", For: "age <> 1"}))
	ok(t, d.Tag("P", api.Tag{Name: "K", Key: "10 / age", For: "age > 0"}))
	ok(t, d.Order("P", "F"))
	ok(t, d.Go("P", 1))
	ok(t, d.Skip("P", 1))
	at(t, d, "P", 3, false, false)
	ok(t, d.Go("P", 1))
	ok(t, d.Skip("P", -1))
	at(t, d, "P", 4, false, false)
	ok(t, d.Order("P", "K"))
	ok(t, d.Go("P", 4))
	ok(t, d.Skip("P", 1))
	at(t, d, "P", 5, false, true)
	ok(t, d.Go("P", 4))
	ok(t, d.Skip("P", -1))
	at(t, d, "P", 1, false, false)
}

// P14.3
func TestSeek(t *testing.T) {
	d := desk(t, map[string]api.Table{"P": people("bc", 1, "ab", 2, "b", 3, "-bb", 4, "abc", 5)}, "P", "P Q")
	ok(t, d.Tag("P", api.Tag{Name: "NAME", Key: "name"}))
	ok(t, d.Tag("P", api.Tag{Name: "DOWN", Key: "name", Down: true}))
	ok(t, d.Tag("P", api.Tag{Name: "AGE", Key: "age", For: "age <> 3"}))
	if _, e := d.Seek("P", api.Value{N: 1}, false); e != api.ErrState {
		t.Error("no order", e)
	}
	seek := func(v api.Value, soft, found bool, rec int, eof bool) {
		t.Helper()
		got, e := d.Seek("P", v, soft)
		if got != found || e != api.OK {
			t.Errorf("Seek %v: %v %d", v, got, e)
		}
		at(t, d, "P", rec, false, eof)
	}
	ok(t, d.Order("P", "NAME"))
	if _, e := d.Seek("P", text(strings.Repeat("x", 3000)), false); e != api.ErrLarge {
		t.Error("no value", e)
	}
	seek(text("ab"), false, true, 2, false)
	seek(text("a"), false, true, 2, false)
	seek(text("abcd"), false, false, 6, true)
	seek(text("abcd"), true, false, 3, false)
	seek(text("z"), true, false, 6, true)
	seek(text(""), false, true, 2, false)
	seek(num(1), false, false, 6, true)
	seek(num(1), true, false, 2, false)
	seek(api.Value{}, true, false, 2, false)
	ok(t, d.Switch(true, true))
	seek(text("a"), false, false, 6, true)
	seek(text("a"), true, false, 2, false)
	seek(text("ab"), false, true, 2, false)
	seek(text("bb"), false, false, 6, true)
	seek(text("bb"), true, false, 1, false)
	ok(t, d.Filter("P", "age > 2"))
	seek(text("ab"), true, false, 5, false)
	ok(t, d.Filter("P", ""))
	ok(t, d.Switch(false, false))
	ok(t, d.Order("P", "DOWN"))
	seek(text("b"), false, true, 3, false)
	seek(text("a"), false, false, 6, true)
	seek(text("ac"), true, false, 5, false)
	ok(t, d.Order("P", "AGE"))
	seek(num(3), true, false, 4, false)
	seek(num(3), false, false, 6, true)
	seek(num(4), false, true, 4, false)
	ok(t, d.Top("P"))
	ok(t, d.Skip("P", -1))
	seek(num(1), false, true, 1, false)
	at(t, d, "Q", 1, false, false)
}

// P14.4
func TestRelations(t *testing.T) {
	d := desk(t, map[string]api.Table{"P": people("a", 2, "b", 1, "c", 9), "Q": people("x", 1, "y", 3), "R": people("u", 1, "v", 3)}, "P", "Q", "R", "P S")
	ok(t, d.Tag("Q", api.Tag{Name: "AGE", Key: "age"}))
	ok(t, d.Tag("R", api.Tag{Name: "AGE", Key: "age"}))
	ok(t, d.Order("R", "AGE"))
	for i, c := range []struct {
		alias, expr, child string
		e                  api.Errno
	}{
		{"P", "(", "X", api.ErrNone}, {"P", "(", "P", api.ErrSyntax}, {"P", "age", "P", api.ErrRule}, {"P", "age", "Q", api.OK}, {"P", "age", "Q", api.ErrTwice}, {"Q", "age", "R", api.OK}, {"R", "1", "P", api.ErrRule}, {"R", "1", "Q", api.ErrRule}, {"R", "1", "S", api.OK},
	} {
		if e := d.Relate(c.alias, c.expr, c.child); e != c.e {
			t.Errorf("Relate %d: %d", i, e)
		}
	}
	at(t, d, "Q", 2, false, false)
	at(t, d, "R", 2, false, false)
	ok(t, d.Go("P", 2))
	at(t, d, "Q", 1, false, false)
	at(t, d, "R", 1, false, false)
	ok(t, d.Go("P", 3))
	at(t, d, "Q", 3, false, true)
	at(t, d, "R", 3, false, true) // at its end Q has the age 0
	ok(t, d.Set("P", []string{"AGE"}, []api.Value{num(1)}))
	at(t, d, "Q", 1, false, false)
	ok(t, d.Go("Q", 2))
	at(t, d, "R", 2, false, false)
	ok(t, d.Mark("P", true))
	at(t, d, "Q", 1, false, false)
	ok(t, d.Go("Q", 2))
	ok(t, d.Skip("P", 0))
	at(t, d, "Q", 2, false, false)
	ok(t, d.Order("Q", "AGE"))
	ok(t, d.Top("P"))
	at(t, d, "Q", 3, false, true)
	if _, _, n, _ := d.About("P"); n != 1 {
		t.Error("About", n)
	}
	ok(t, d.Unrelate("P"))
	ok(t, d.Go("P", 2))
	at(t, d, "Q", 3, false, true)
	ok(t, d.Relate("P", "1 / 0", "Q"))
	ok(t, d.Go("Q", 1))
	ok(t, d.Go("P", 2))
	at(t, d, "Q", 3, false, true)
	ok(t, d.Close("Q"))
	if _, _, n, _ := d.About("P"); n != 0 {
		t.Error("a relation to what is closed", n)
	}
	ok(t, d.Go("P", 1))
}

// P14.5
func TestChanges(t *testing.T) {
	d := desk(t, map[string]api.Table{"P": people("b", 2, "a", 1, "c", 3), "E": people()}, "P", "P Q", "E")
	ok(t, d.Tag("P", api.Tag{Name: "AGE", Key: "10 / age", Uniq: 2}))
	before := d.Copy()
	for i, c := range []struct {
		alias string
		names []string
		l     []api.Value
		e     api.Errno
	}{
		{"E", []string{"X"}, nil, api.ErrState}, {"P", []string{"X"}, nil, api.ErrFit}, {"P", []string{"AGE", "AGE", "X"}, make([]api.Value, 3), api.ErrNone}, {"P", []string{"AGE", "AGE"}, make([]api.Value, 2), api.ErrTwice}, {"P", []string{"AGE"}, []api.Value{text("a")}, api.ErrType},
		{"P", []string{"AGE"}, make([]api.Value, 1), api.ErrRule}, {"P", []string{"AGE", "NAME"}, []api.Value{num(1000), num(1)}, api.ErrFit}, {"P", []string{"NAME"}, []api.Value{text("\xff")}, api.ErrFit}, {"P", []string{"AGE"}, []api.Value{num(0)}, api.ErrType}, {"P", []string{"AGE"}, []api.Value{num(1)}, api.ErrRule},
		{"P", []string{"AGE"}, []api.Value{{N: 1}}, api.ErrArg}, {"P", []string{"NAME"}, []api.Value{text(strings.Repeat("x", 3000))}, api.ErrLarge},
	} {
		if e := d.Set(c.alias, c.names, c.l); e != c.e {
			t.Errorf("Set %d: %d, want %d", i, e, c.e)
		}
	}
	if !area.Same(before, d) {
		t.Error("an error has changed the desk")
	}
	ok(t, d.Order("P", "AGE"))
	ok(t, d.Go("P", 2))
	ok(t, d.Set("P", []string{"AGE", "NAME"}, []api.Value{num(9), text("longer than six")}))
	at(t, d, "P", 2, false, false)
	rowIs(t, d, "P", 2, 3, 1)
	if v, _, _ := d.Eval("P", "name"); v != text("longer") {
		t.Error(v)
	}
	if n, e := d.Append("P"); n != 0 || e != api.ErrType {
		t.Error("Append that the tag does not take", n, e)
	}
	if n, e := d.Append("E"); n != 1 || e != api.OK {
		t.Error("Append", n, e)
	}
	at(t, d, "E", 1, false, false)
	if e := d.Mark("P", true); e != api.OK {
		t.Error("Mark", e)
	}
	ok(t, d.Go("Q", 3))
	if n, e := d.Pack("P"); n != 1 || e != api.OK {
		t.Error("Pack", n, e)
	}
	at(t, d, "P", 1, false, false)
	at(t, d, "Q", 1, false, false)
	if n, e := d.Zap("Q"); n != 2 || e != api.OK {
		t.Error("Zap", n, e)
	}
	at(t, d, "P", 1, false, true)
	if e := d.Mark("P", true); e != api.ErrState {
		t.Error("Mark at the end", e)
	}
	if tab, e := d.Table("E"); len(tab.Recs) != 1 || e != api.OK {
		t.Error("Table", e)
	}
}

func TestEndStays(t *testing.T) {
	d := desk(t, map[string]api.Table{"P": people("a", 1)}, "P", "P Q")
	ok(t, d.Skip("Q", 5))
	_, e := d.Append("P")
	ok(t, e)
	at(t, d, "P", 2, false, false)
	at(t, d, "Q", 3, false, true)
}

func TestEval(t *testing.T) {
	d := desk(t, map[string]api.Table{"P": people("-a", 1, "b", 2), "Q": people("x", 7)}, "P", "Q")
	ok(t, d.Skip("Q", 5))
	for s, want := range map[string]api.Value{
		"age": num(1), "q->age": num(0), "q->recno()": {}, "q->(recno()) * 10 + recno()": num(21), "deleted()": {Kind: api.Truth, N: 1}, "q->(deleted())": {Kind: api.Truth}, "q->(p->age + age) + p->(age)": num(2), "name = ''": {Kind: api.Truth, N: 1}, "if(.t., 1, q->age)": num(1), "q->name + 'z'": text("z"),
	} {
		v, why, e := d.Eval("P", s)
		if s == "q->recno()" {
			if e != api.ErrSyntax {
				t.Error(s, e)
			}
			continue
		}
		if v != want || why != 0 || e != api.OK {
			t.Errorf("%s: %v %d %d", s, v, why, e)
		}
		x, _, _ := tree.ParseExpr(s)
		if v, why, e := d.Value("P", x); v != want || why != 0 || e != api.OK {
			t.Errorf("Value of %s: %v %d %d", s, v, why, e)
		}
	}
	for s, want := range map[string]int{"x": api.DieName, "z->age": api.DieName, "if(.t., 1, z->age)": api.DieName, "x + z->(1 / 0)": api.DieName, "x + q->(1 / 0)": api.DieZero, "q->x": api.DieName, "_0 + q->age": api.DieName, "1 / 0 + q->('a' + 1)": api.DieType, "{q->(1 / 0)}": api.DieZero, "{q->age}": api.DieRule} {
		if v, why, e := d.Eval("P", s); why != want || e != api.OK || v != (api.Value{}) {
			t.Errorf("%s: %d, want %d", s, why, want)
		}
	}
	if _, _, e := d.Eval("P", "("); e != api.ErrSyntax {
		t.Error(e)
	}
	if _, _, e := d.Value("P", api.Expr{Op: 99}); e != api.ErrArg {
		t.Error(e)
	}
	ok(t, d.Switch(true, false))
	if v, _, _ := d.Eval("P", "name = ''"); v.N != 0 {
		t.Error("exact", v)
	}
}

func TestFilterSeesOthers(t *testing.T) {
	d := desk(t, map[string]api.Table{"P": people("a", 1, "b", 2, "c", 3), "Q": people("x", 1, "y", 2)}, "P", "Q")
	ok(t, d.Filter("P", "age > q->age .and. p->age = age"))
	rowIs(t, d, "P", 2, 3)
	ok(t, d.Go("Q", 2))
	rowIs(t, d, "P", 3)
	at(t, d, "P", 1, false, false)
}

// P14.6
func TestPairs(t *testing.T) {
	d := desk(t, map[string]api.Table{"P": people("a", 1, "b", 2, "c", 7), "Q": people("x", 2, "y", 1, "z", 2), "R": people("u", 1, "v", 2)}, "P", "Q", "R")
	if l, e := d.Pairs("P"); !reflect.DeepEqual(l, [][]int{{1}, {2}, {3}}) || e != api.OK {
		t.Error(l, e)
	}
	ok(t, d.Tag("Q", api.Tag{Name: "AGE", Key: "age"}))
	ok(t, d.Order("Q", "AGE"))
	ok(t, d.Relate("P", "age", "Q"))
	ok(t, d.Relate("P", "if(q->(recno()) = 1, 2, 1)", "R"))
	before := d.Copy()
	if l, e := d.Pairs("P"); !reflect.DeepEqual(l, [][]int{{1, 2, 1}, {2, 1, 2}, {2, 3, 2}, {3, 0, 1}}) || e != api.OK {
		t.Error(l, e)
	}
	ok(t, d.Tag("R", api.Tag{Name: "ONE", Key: "1"}))
	ok(t, d.Order("R", "ONE"))
	ok(t, d.Filter("P", "age <> 7"))
	if l, e := d.Pairs("P"); !reflect.DeepEqual(l, [][]int{{1, 2, 1}, {1, 2, 2}, {2, 1, 0}, {2, 3, 0}}) || e != api.OK {
		t.Error(l, e)
	}
	ok(t, d.Filter("P", ""))
	ok(t, d.Order("R", ""))
	if area.Same(before, d) {
		t.Error("the tag ONE")
	}
	if l, _ := d.Pairs("Q"); len(l) != 3 {
		t.Error(l)
	}
}

func TestTooManyPairs(t *testing.T) {
	many := people()
	for range 45 {
		many.Recs = append(many.Recs, people("a", 1).Recs...)
	}
	d := desk(t, map[string]api.Table{"P": many, "Q": many}, "P", "Q")
	ok(t, d.Tag("Q", api.Tag{Name: "AGE", Key: "age"}))
	ok(t, d.Order("Q", "AGE"))
	ok(t, d.Relate("P", "age", "Q"))
	if l, e := d.Pairs("P"); e != api.ErrLarge || l != nil {
		t.Error(e)
	}
	ok(t, d.Filter("P", "recno() <= 44"))
	if l, e := d.Pairs("P"); e != api.OK || len(l) != 44*45 {
		t.Error(e)
	}
}

func TestCopyBecomeSame(t *testing.T) {
	d := desk(t, map[string]api.Table{"P": people("a", 1, "b", 2)}, "P")
	for i, change := range []func(d *area.Desk){
		func(d *area.Desk) { d.Go("P", 2) }, func(d *area.Desk) { d.Switch(true, false) }, func(d *area.Desk) { d.Switch(false, true) }, func(d *area.Desk) { d.Open("P", "Q") }, func(d *area.Desk) { d.Tag("P", api.Tag{Name: "A", Key: "1"}) },
		func(d *area.Desk) { d.Filter("P", "age > 1") }, func(d *area.Desk) { d.Mark("P", true) }, func(d *area.Desk) { d.Close("P") }, func(d *area.Desk) { d.Skip("P", -1) }, func(d *area.Desk) { d.Append("P") },
	} {
		c := d.Copy()
		if !area.Same(c, d) || !area.Same(c, c) {
			t.Fatal("a copy is equal")
		}
		change(c)
		if area.Same(c, d) || area.Same(d, c) {
			t.Errorf("change %d is not seen", i)
		}
		e := desk(t, map[string]api.Table{"X": people()})
		if err := e.Become(c); err != api.OK || !area.Same(e, c) {
			t.Error("Become", err)
		}
		e.Append("P")
	}
	if d.Become(nil) != api.ErrState || d.Become(d) != api.OK {
		t.Error("Become")
	}
	if tab, _ := d.Table("P"); len(tab.Recs) != 2 {
		t.Error("copies are their own")
	}
}

// Moves are held against the row as the chapter says it.
func TestMovesAgainstRow(t *testing.T) {
	for seed := range 150 {
		r := rand.New(rand.NewSource(int64(seed)))
		tab := people()
		for range r.Intn(9) {
			tab.Recs = append(tab.Recs, people([]string{"a", "-a", "b", "-ab", "ba"}[r.Intn(5)], r.Intn(4)).Recs...)
		}
		d := desk(t, map[string]api.Table{"P": tab}, "P")
		tag := api.Tag{Name: "T", Key: []string{"name", "age", "name + str(age, 2)"}[r.Intn(3)], For: []string{"", "age > 0"}[r.Intn(2)], Uniq: r.Intn(2), Down: r.Intn(2) == 0}
		ok(t, d.Tag("P", tag))
		order := []string{"", "T"}[r.Intn(2)]
		ok(t, d.Order("P", order))
		ok(t, d.Filter("P", []string{"", "age <> 2"}[r.Intn(2)]))
		exact := r.Intn(2) == 0
		ok(t, d.Switch(exact, r.Intn(2) == 0))
		n := len(tab.Recs)
		keyOf := func(k int) string {
			if order == "" {
				return string([]byte{byte(k)})
			}
			c := d.Copy()
			c.Go("P", k)
			v, _, _ := c.Eval("P", tag.Key)
			s, _ := key.Encode(v, 0, 0, tag.Down)
			return s + string([]byte{0, 0, byte(k)})
		}
		for range 25 {
			row, _ := d.Row("P")
			now, _, eof, _ := d.Where("P")
			var behind, before []int
			for _, k := range row {
				if eof || keyOf(k) < keyOf(now) {
					before = append(before, k)
				} else if k != now {
					behind = append(behind, k)
				}
			}
			want, bof := n+1, false
			switch op := r.Intn(6); op {
			case 0:
				if n == 0 {
					continue
				}
				want = 1 + r.Intn(n)
				ok(t, d.Go("P", want))
			case 1, 2:
				s := 1 + r.Intn(3)
				if len(behind) >= s {
					want = behind[s-1]
				}
				ok(t, d.Skip("P", s))
			case 3, 4:
				s := 1 + r.Intn(3)
				if len(before) >= s {
					want = before[len(before)-s]
				} else {
					bof = true
					if len(row) > 0 {
						want = row[0]
					}
				}
				ok(t, d.Skip("P", -s))
			default:
				if order == "" {
					continue
				}
				v := []api.Value{text("a"), text("b"), num(1), num(2), text("ab")}[r.Intn(5)]
				soft := r.Intn(2) == 0
				k, _ := key.Encode(v, 0, 0, tag.Down)
				p, _ := key.Prefix(v.S, 0, 0, tag.Down)
				is := func(rec int) bool {
					have := strings.TrimSuffix(keyOf(rec), string([]byte{0, 0, byte(rec)}))
					return have == k || !exact && !tag.Down && v.Kind == api.Text && strings.HasPrefix(have, p)
				}
				i := slices.IndexFunc(row, is)
				found := i >= 0
				if i < 0 && soft {
					i = slices.IndexFunc(row, func(rec int) bool { return strings.TrimSuffix(keyOf(rec), string([]byte{0, 0, byte(rec)})) > k })
				}
				if i >= 0 {
					want = row[i]
				}
				if got, e := d.Seek("P", v, soft); got != found || e != api.OK {
					t.Fatalf("seed %d: Seek %v: %v", seed, v, got)
				}
			}
			at(t, d, "P", want, bof, want == n+1)
			if t.Failed() {
				t.Fatalf("seed %d: row %v, was at %d", seed, row, now)
			}
		}
	}
}

func TestManyGoroutines(t *testing.T) {
	d := desk(t, map[string]api.Table{"P": people("a", 1), "Q": people("b", 2)}, "P", "Q")
	ok(t, d.Relate("P", "age", "Q"))
	var wait sync.WaitGroup
	for range 6 {
		wait.Go(func() {
			for i := range 30 {
				d.Append("P")
				d.Skip("P", -i)
				d.Set("P", []string{"AGE"}, []api.Value{num(i)})
				area.Same(d, d.Copy())
				d.Become(d.Copy())
				d.Row("P")
			}
		})
	}
	wait.Wait()
}
