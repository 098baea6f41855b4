package cmd_test

import (
	"fmt"
	"slices"
	"strings"
	"testing"

	"cabinetry/api"
	"cabinetry/area"
	"cabinetry/cmd"
	"cabinetry/tree"
	"cabinetry/val"
)

func num(n int) api.Value     { return api.Value{Kind: api.Num, N: n} }
func text(s string) api.Value { return api.Value{Kind: api.Text, S: s} }

func x(s string) api.Expr {
	e, _, err := tree.ParseExpr(s)
	if err != api.OK {
		panic(s)
	}
	return e
}

func xs(l ...string) []api.Expr {
	var out []api.Expr
	for _, s := range l {
		out = append(out, x(s))
	}
	return out
}

// scope reads a scope as it stands in a program.
func scope(s string) api.Scope {
	p, _, e := tree.Parse("locate " + s)
	if e != api.OK {
		panic(s)
	}
	return p[0].Body[0].C
}

// numbers is a table of a Num A, with a nullable Num B and a text C; a negative A is gone.
func numbers(l ...int) api.Table {
	t := api.Table{Fields: []api.Field{{Name: "A", Kind: api.Num, Width: 4}, {Name: "B", Kind: api.Num, Width: 4, Null: true}, {Name: "C", Kind: api.Text, Width: 3}}}
	for i, n := range l {
		t.Recs = append(t.Recs, api.Record{Gone: n < 0, V: []api.Value{num(max(n, -n)), num(i + 1), text(string(rune('a' + i%26)))}})
	}
	return t
}

func desk(t *testing.T, tables ...api.Table) *area.Desk {
	t.Helper()
	names := []string{"P", "Q", "R"}[:len(tables)]
	d, e := area.New(names, tables)
	if e != api.OK {
		t.Fatal(e)
	}
	for _, name := range names {
		d.Open(name, name)
	}
	return d
}

func at(t *testing.T, d *area.Desk, alias string, want int) {
	t.Helper()
	if k, _, _, _ := d.Where(alias); k != want {
		t.Errorf("%s is at %d, want %d", alias, k, want)
	}
}

// shown is a table as its records' values.
func shown(t api.Table) string {
	var out []string
	for _, r := range t.Recs {
		s := ""
		if r.Gone {
			s = "-"
		}
		for i, v := range r.V {
			one, _ := val.Show(v)
			if i > 0 {
				s += ","
			}
			s += one
		}
		out = append(out, s)
	}
	return strings.Join(out, " ")
}

// P15.1
func TestValidate(t *testing.T) {
	bad := []api.Expr{{Op: -1}}
	one := xs("1")
	deep := []api.Expr{x("1")}
	for range 14 {
		deep = []api.Expr{{Op: api.XUn, S: "-", L: deep}}
	}
	for i, c := range []struct {
		s api.Scope
		e api.Errno
	}{
		{api.Scope{}, api.OK}, {api.Scope{Kind: -1}, api.ErrArg}, {api.Scope{Kind: 5}, api.ErrArg}, {api.Scope{Kind: api.All, N: one}, api.ErrArg}, {api.Scope{Kind: api.Next}, api.ErrArg}, {api.Scope{Kind: api.Next, N: one}, api.OK}, {api.Scope{Kind: api.Single, N: xs("1", "2")}, api.ErrArg},
		{api.Scope{For: xs("1", "2")}, api.ErrArg}, {api.Scope{While: xs("1", "2"), For: deep}, api.ErrArg}, {api.Scope{For: bad, While: deep}, api.ErrArg}, {api.Scope{For: deep, While: bad}, api.ErrLarge}, {api.Scope{Kind: api.Rest, For: one, While: one}, api.OK},
	} {
		if e := cmd.Validate(c.s); e != c.e {
			t.Errorf("Validate %d: %d", i, e)
		}
		if _, e := cmd.Found(desk(t, numbers(1)), "P", c.s); e != c.e {
			t.Errorf("Found %d: %d", i, e)
		}
	}
}

// calls does each command with wrong arguments in the order of their errors, from a step on.
func calls(d *area.Desk, alias string, s api.Scope, bad api.Expr, names []string) []api.Errno {
	_, e1 := cmd.Found(d, alias, s)
	_, e2 := cmd.Count(d, alias, s)
	_, e3 := cmd.Sum(d, alias, []api.Expr{bad}, s)
	_, e4 := cmd.Locate(d, alias, s)
	_, e5 := cmd.Replace(d, alias, names, []api.Expr{bad}, s)
	_, e6 := cmd.Delete(d, alias, s)
	_, e7 := cmd.Recall(d, alias, s)
	_, e8 := cmd.Copy(d, alias, names, s)
	_, e9 := cmd.Sort(d, alias, names, []bool{true}, s)
	_, e10 := cmd.Total(d, alias, bad, names, s)
	return []api.Errno{e1, e2, e3, e4, e5, e6, e7, e8, e9, e10}
}

func TestErrorOrder(t *testing.T) {
	d := desk(t, numbers(1, 2))
	wrong, right := api.Expr{Op: 99}, x("1")
	badScope, dying := api.Scope{Kind: 9}, api.Scope{Kind: api.All, For: xs("x")}
	same := func(what string, l []api.Errno, want ...api.Errno) {
		t.Helper()
		for i, e := range l {
			w := want[min(i, len(want)-1)]
			if e != w {
				t.Errorf("%s: command %d: %d, want %d", what, i, e, w)
			}
		}
	}
	same("nil", calls(nil, "X", badScope, wrong, nil), api.ErrState)
	same("no area", calls(d, "X", badScope, wrong, nil), api.ErrNone)
	same("scope", calls(d, "P", badScope, wrong, nil), api.ErrArg)
	same("expressions", calls(d, "P", dying, wrong, []string{"X"}), api.ErrType, api.ErrType, api.ErrArg, api.ErrType, api.ErrArg, api.ErrType, api.ErrType, api.ErrNone, api.ErrNone, api.ErrArg)
	same("names", calls(d, "P", dying, right, []string{"A", "A"}), api.ErrType, api.ErrType, api.ErrType, api.ErrType, api.ErrFit, api.ErrType, api.ErrType, api.ErrTwice, api.ErrFit, api.ErrTwice)
	same("no such field", calls(d, "P", dying, right, []string{"X"}), api.ErrType, api.ErrType, api.ErrType, api.ErrType, api.ErrNone, api.ErrType, api.ErrType, api.ErrNone, api.ErrNone, api.ErrNone)
	same("the scope dies", calls(d, "P", dying, right, []string{"A"}), api.ErrType)
	for _, s := range []string{"next 'a'", "next x", "record .null.", "while x", "for 1 / 0"} {
		if _, e := cmd.Found(d, "P", scope(s)); e != api.ErrType {
			t.Errorf("%s: %d", s, e)
		}
	}
	if _, e := cmd.Sort(d, "P", nil, nil, all()); e != api.ErrArg {
		t.Error("Sort by nothing", e)
	}
	if _, e := cmd.Replace(d, "P", []string{"A", "A"}, xs("1", "1"), all()); e != api.ErrTwice {
		t.Error("Replace", e)
	}
	at(t, d, "P", 1)
}

func all() api.Scope { return api.Scope{Kind: api.All} }

// P15.2
func TestScopes(t *testing.T) {
	for _, c := range []struct {
		scope string
		want  []int
		end   int
	}{
		{"", []int{1, 2, 4, 5}, 6}, {"all", []int{1, 2, 4, 5}, 6}, {"rest", []int{4, 5}, 6}, {"next 1", []int{4}, 4}, {"next 9", []int{4, 5}, 5}, {"next 0", nil, 3}, {"next -1", nil, 3}, {"record 3", []int{3}, 3}, {"record 9", nil, 3}, {"record 0", nil, 3},
		{"for a > 1", []int{2, 4, 5}, 6}, {"all while a <> 4", []int{1, 2}, 4}, {"while a < 2 for a > 1", nil, 2}, {"next 1 + 1 for a = 5", []int{5}, 5}, {"rest while .null.", nil, 4}, {"record 2 for a = 9", nil, 2}, {"record 2 while .f.", nil, 2}, {"next 2 while .f.", nil, 4}, {"rest for a", nil, 6},
	} {
		d := desk(t, numbers(1, 2, -3, 4, 5))
		d.Switch(false, true)
		d.Go("P", 3)
		before := d.Copy()
		s := scope(c.scope)
		l, e := cmd.Found(d, "P", s)
		if !slices.Equal(l, c.want) || e != api.OK || !area.Same(before, d) {
			t.Errorf("Found %s: %v %d", c.scope, l, e)
		}
		n, e := cmd.Count(d, "P", s)
		if n != len(c.want) || e != api.OK {
			t.Errorf("Count %s: %d %d", c.scope, n, e)
		}
		at(t, d, "P", c.end)
		d.Go("P", 3)
		ok, e := cmd.Locate(d, "P", s)
		if ok != (len(c.want) > 0) || e != api.OK {
			t.Errorf("Locate %s: %v %d", c.scope, ok, e)
		}
		if ok {
			at(t, d, "P", c.want[0])
		} else {
			at(t, d, "P", c.end)
		}
	}
}

func TestAtTheEnd(t *testing.T) {
	d := desk(t, numbers(1, 2))
	d.Skip("P", 9)
	for _, s := range []string{"rest", "next 5"} {
		if l, e := cmd.Found(d, "P", scope(s)); len(l) > 0 || e != api.OK {
			t.Error(s, l)
		}
	}
	if n, e := cmd.Count(d, "P", scope("all")); n != 2 || e != api.OK {
		t.Error(n, e)
	}
	empty := desk(t, numbers())
	if n, e := cmd.Delete(empty, "P", api.Scope{}); n != 0 || e != api.OK {
		t.Error(n, e)
	}
}

func TestSum(t *testing.T) {
	d := desk(t, numbers(1, 2, 3))
	d.Go("P", 2)
	d.Set("P", []string{"B"}, []api.Value{{}})
	if l, e := cmd.Sum(d, "P", xs("a", "b", "a * 2 - b"), api.Scope{}); !slices.Equal(l, []int{6, 4, 4}) || e != api.OK {
		t.Error(l, e)
	}
	at(t, d, "P", 4)
	d.Go("P", 2)
	for s, want := range map[string]api.Errno{"c": api.ErrType, "1 / (a - 3)": api.ErrType, "if(a < 3, 999999999999999, -999999999999999)": api.ErrLarge, "999999999999999 * (5 - a * 2)": api.ErrType, "-if(a < 3, 999999999999999, -1)": api.ErrLarge} {
		if l, e := cmd.Sum(d, "P", xs(s), api.Scope{}); l != nil || e != want {
			t.Errorf("%s: %v %d", s, l, e)
		}
		at(t, d, "P", 2)
	}
	if l, e := cmd.Sum(d, "P", nil, api.Scope{}); len(l) != 0 || e != api.OK {
		t.Error(l, e)
	}
}

// P15.3
func TestReplace(t *testing.T) {
	d := desk(t, numbers(1, 2, 3))
	d.Tag("P", api.Tag{Name: "A", Key: "a"})
	d.Order("P", "A")
	if n, e := cmd.Replace(d, "P", []string{"A"}, xs("a + 1"), scope("all")); n != 3 || e != api.OK {
		t.Error(n, e)
	}
	tab, _ := d.Table("P")
	if shown(tab) != "2,1,a 3,2,b 4,3,c" {
		t.Error(shown(tab))
	}
	at(t, d, "P", 4)
	d.Go("P", 2)
	if n, e := cmd.Replace(d, "P", []string{"A", "B"}, xs("b", "a"), api.Scope{}); n != 1 || e != api.OK {
		t.Error("the usual scope, and values before any is set", n, e)
	}
	tab, _ = d.Table("P")
	if shown(tab) != "2,1,a 2,3,b 4,3,c" {
		t.Error(shown(tab))
	}
	at(t, d, "P", 2)
	before := d.Copy()
	for _, c := range []struct {
		name, s string
		e       api.Errno
	}{{"A", "1 / (a - 4)", api.ErrType}, {"A", "a * 3000", api.ErrFit}, {"A", "'x'", api.ErrType}, {"A", ".null.", api.ErrRule}} {
		if n, e := cmd.Replace(d, "P", []string{c.name}, xs(c.s), scope("all")); n != 0 || e != c.e || !area.Same(before, d) {
			t.Errorf("%s: %d %d", c.s, n, e)
		}
	}
}

func TestDeleteAndRecall(t *testing.T) {
	d := desk(t, numbers(1, 2, 3, 4))
	d.Go("P", 2)
	if n, e := cmd.Delete(d, "P", scope("rest while a > 2")); n != 0 || e != api.OK {
		t.Error(n, e)
	}
	at(t, d, "P", 2)
	if n, e := cmd.Delete(d, "P", api.Scope{}); n != 1 || e != api.OK {
		t.Error(n, e)
	}
	d.Switch(false, true)
	if n, e := cmd.Delete(d, "P", scope("all for a > 2")); n != 2 || e != api.OK {
		t.Error(n, e)
	}
	if n, e := cmd.Recall(d, "P", scope("record 3")); n != 1 || e != api.OK {
		t.Error(n, e)
	}
	tab, _ := d.Table("P")
	if shown(tab) != "1,1,a -2,2,b 3,3,c -4,4,d" {
		t.Error(shown(tab))
	}
	d.Tag("P", api.Tag{Name: "U", Key: "a % 2", Uniq: 2, For: "a < 3"})
	d.Tag("P", api.Tag{Name: "V", Key: "if(deleted(), 1 / (a - 1), 1)"})
	before := d.Copy()
	if _, e := cmd.Delete(d, "P", scope("all")); e != api.ErrType || !area.Same(before, d) {
		t.Error("Delete that a tag does not take", e)
	}
}

func TestAppendFrom(t *testing.T) {
	d := desk(t, numbers(1))
	other := api.Table{Page: 1, Fields: []api.Field{{Name: "C", Kind: api.Num, Width: 3}, {Name: "A", Kind: api.Text, Width: 9}}}
	for i, s := range []string{"12", "x", "345678"} {
		other.Recs = append(other.Recs, api.Record{Gone: i == 1, V: []api.Value{num(i * 10), text(s)}})
	}
	if n, e := cmd.AppendFrom(d, "P", other); n != 2 || e != api.OK {
		t.Error(n, e)
	}
	tab, _ := d.Table("P")
	if shown(tab) != "1,1,a 12,0,0 0,0,20" {
		t.Error(shown(tab))
	}
	at(t, d, "P", 3)
	d.Go("P", 1)
	other.Recs = other.Recs[1:2]
	if n, e := cmd.AppendFrom(d, "P", other); n != 0 || e != api.OK {
		t.Error(n, e)
	}
	at(t, d, "P", 1)
	_, e1 := cmd.AppendFrom(nil, "P", api.Table{})
	_, e2 := cmd.AppendFrom(d, "X", api.Table{})
	_, e3 := cmd.AppendFrom(d, "P", api.Table{Page: 9})
	if e1 != api.ErrState || e2 != api.ErrNone || e3 != api.ErrArg {
		t.Error(e1, e2, e3)
	}
	d.Tag("P", api.Tag{Name: "U", Key: "a", Uniq: 2})
	before := d.Copy()
	if _, e := cmd.AppendFrom(d, "P", numbers(7, 7)); e != api.ErrRule || !area.Same(before, d) {
		t.Error("a tag does not take it", e)
	}
	big := desk(t, numbers(make([]int, 299)...))
	if _, e := cmd.AppendFrom(big, "P", numbers(1, 2)); e != api.ErrLarge {
		t.Error(e)
	}
}

func TestUpdate(t *testing.T) {
	d := desk(t, numbers(1, 2, 3), numbers(3, 9, 1, 3))
	d.Tag("P", api.Tag{Name: "A", Key: "a"})
	if _, e := cmd.Update(d, "P", "Q", x("a"), []string{"B"}, xs("b + q->b * 10")); e != api.ErrState {
		t.Error("no order", e)
	}
	d.Order("P", "A")
	if n, e := cmd.Update(d, "P", "Q", x("a"), []string{"B"}, xs("b + q->b * 10")); n != 3 || e != api.OK {
		t.Error(n, e)
	}
	tab, _ := d.Table("P")
	if shown(tab) != "1,31,a 2,2,b 3,53,c" {
		t.Error(shown(tab))
	}
	at(t, d, "P", 4)
	at(t, d, "Q", 5)
	before := d.Copy()
	for i, c := range []struct {
		a, b  string
		key   api.Expr
		names []string
		l     []api.Expr
		e     api.Errno
	}{
		{"P", "X", x("a"), nil, nil, api.ErrNone}, {"P", "Q", api.Expr{Op: 99}, []string{"X"}, nil, api.ErrArg}, {"P", "Q", x("a"), []string{"B"}, nil, api.ErrFit}, {"P", "Q", x("a"), []string{"X"}, xs("1"), api.ErrNone}, {"P", "Q", x("a"), []string{"B", "B"}, xs("1", "1"), api.ErrTwice},
		{"P", "Q", x("1 / (a - 1)"), []string{"B"}, xs("1"), api.ErrType}, {"P", "Q", x("a"), []string{"B"}, xs("x"), api.ErrType}, {"P", "Q", x("a"), []string{"B"}, xs("'x'"), api.ErrType}, {"P", "P", x("a"), []string{"B"}, xs("1"), api.ErrRule},
	} {
		if _, e := cmd.Update(d, c.a, c.b, c.key, c.names, c.l); e != c.e || !area.Same(before, d) {
			t.Errorf("Update %d: %d, want %d", i, e, c.e)
		}
	}
	d.Relate("Q", "1", "P")
	if _, e := cmd.Update(d, "P", "Q", x("a"), []string{"B"}, xs("1")); e != api.ErrRule {
		t.Error("a relation", e)
	}
}

// P15.4
func TestCopyAndSort(t *testing.T) {
	d := desk(t, numbers(3, -1, 2, 1, 3))
	if got, e := cmd.Copy(d, "P", []string{"C", "A"}, scope("for a < 3")); shown(got) != "-b,1 c,2 d,1" || e != api.OK || got.Fields[0].Name != "C" || len(got.Fields) != 2 {
		t.Error(shown(got), e)
	}
	at(t, d, "P", 6)
	if got, e := cmd.Copy(d, "P", nil, scope("record 2")); shown(got) != "-1,2,b" || e != api.OK {
		t.Error(shown(got), e)
	}
	if got, e := cmd.Sort(d, "P", []string{"A"}, []bool{false}, api.Scope{}); shown(got) != "-1,2,b 1,4,d 2,3,c 3,1,a 3,5,e" || e != api.OK {
		t.Error(shown(got), e)
	}
	d.Go("P", 3)
	d.Set("P", []string{"B"}, []api.Value{{}})
	if got, _ := cmd.Sort(d, "P", []string{"A", "B"}, []bool{true, true}, api.Scope{}); shown(got) != "3,5,e 3,1,a 2,NIL,c 1,4,d -1,2,b" {
		t.Error(shown(got))
	}
	if got, _ := cmd.Sort(d, "P", []string{"B"}, []bool{false}, api.Scope{}); !strings.HasPrefix(shown(got), "2,NIL,c 3,1,a") {
		t.Error(shown(got))
	}
	if got, _ := cmd.Sort(d, "P", []string{"B"}, []bool{true}, api.Scope{}); !strings.HasSuffix(shown(got), "2,NIL,c") {
		t.Error(shown(got))
	}
}

func TestTotal(t *testing.T) {
	d := desk(t, numbers(1, -1, 2, 1))
	got, e := cmd.Total(d, "P", x("a"), []string{"A", "B"}, api.Scope{})
	if shown(got) != "2,3,a 2,3,c 1,4,d" || e != api.OK {
		t.Error(shown(got), e)
	}
	at(t, d, "P", 5)
	for k := 1; k <= 3; k++ {
		d.Go("P", k)
		d.Set("P", []string{"B"}, []api.Value{{}})
	}
	if got, _ := cmd.Total(d, "P", x("1"), []string{"B"}, api.Scope{}); shown(got) != "1,4,a" {
		t.Error(shown(got))
	}
	d.Go("P", 1)
	if got, _ := cmd.Total(d, "P", x(".null."), []string{"B"}, scope("next 3 for recno() < 4")); shown(got) != "1,NIL,a" {
		t.Error(shown(got))
	}
	if _, e := cmd.Total(d, "P", x("x"), nil, api.Scope{}); e != api.ErrType {
		t.Error(e)
	}
	if _, e := cmd.Total(d, "P", x("1"), []string{"C"}, scope("for x")); e != api.ErrType {
		t.Error(e)
	}
	wide := desk(t, numbers(9000, 9000))
	before := wide.Copy()
	if got, e := cmd.Total(wide, "P", x("1"), []string{"A"}, api.Scope{}); e != api.ErrFit || len(got.Fields) > 0 || !area.Same(before, wide) {
		t.Error("too wide", e)
	}
	before = d.Copy()
	if _, e := cmd.Total(d, "P", x("1 / (a - 2)"), nil, api.Scope{}); e != api.ErrType || !area.Same(before, d) {
		t.Error("a key that dies", e)
	}
}

func TestJoin(t *testing.T) {
	d := desk(t, numbers(1, 2, 3), numbers(2, 3, 9))
	fields := [][2]string{{"P", "C"}, {"Q", "B"}, {"Q", "C"}}
	got, e := cmd.Join(d, "P", "Q", x("a <= q->a .and. a > 1"), fields, []string{"X", "Y", "Z"})
	if shown(got) != "b,1,a b,2,b b,3,c c,2,b c,3,c" || e != api.OK || !got.Fields[1].Null || got.Fields[1].Name != "Y" {
		t.Error(shown(got), e, got.Fields)
	}
	at(t, d, "P", 4)
	at(t, d, "Q", 4)
	before := d.Copy()
	for i, c := range []struct {
		a, b   string
		cond   api.Expr
		fields [][2]string
		names  []string
		e      api.Errno
	}{
		{"P", "X", x("1"), nil, nil, api.ErrNone}, {"P", "Q", api.Expr{Op: 99}, nil, nil, api.ErrArg}, {"P", "Q", x("1"), fields, nil, api.ErrFit}, {"P", "Q", x("1"), [][2]string{{"P", "X"}, {"R", "A"}}, []string{"A", "A"}, api.ErrArg}, {"P", "Q", x("1"), [][2]string{{"P", "X"}}, []string{"a"}, api.ErrNone},
		{"P", "Q", x("1"), [][2]string{{"P", "A"}}, []string{"a"}, api.ErrArg}, {"P", "Q", x("1"), nil, nil, api.ErrArg}, {"P", "Q", x("1"), [][2]string{{"P", "A"}, {"Q", "A"}}, []string{"A", "A"}, api.ErrTwice}, {"P", "P", x("1"), [][2]string{{"P", "A"}}, []string{"A"}, api.ErrRule}, {"P", "Q", x("x"), [][2]string{{"P", "A"}}, []string{"A"}, api.ErrType},
	} {
		if _, e := cmd.Join(d, c.a, c.b, c.cond, c.fields, c.names); e != c.e || !area.Same(before, d) {
			t.Errorf("Join %d: %d, want %d", i, e, c.e)
		}
	}
	other := numbers(1)
	other.Page = 1
	if _, e := cmd.Join(desk(t, numbers(1), other), "P", "Q", x(".t."), [][2]string{{"P", "A"}}, []string{"A"}); e != api.ErrFit {
		t.Error("pages", e)
	}
	big := desk(t, numbers(make([]int, 20)...), numbers(make([]int, 16)...))
	if _, e := cmd.Join(big, "P", "Q", x(".t."), [][2]string{{"P", "A"}}, []string{"A"}); e != api.ErrLarge {
		t.Error("too many", e)
	}
	if got, e := cmd.Join(big, "P", "Q", x("recno() < 19"), [][2]string{{"P", "A"}}, []string{"A"}); len(got.Recs) != 288 || e != api.OK {
		t.Error(len(got.Recs), e)
	}
}

// Each record of a scope is visited once, whatever the order, and Count is the length of Found.
func TestVisitedOnce(t *testing.T) {
	for _, s := range []string{"all", "rest", "next 3", "all for a > 2", "all while a < 9"} {
		for _, change := range []string{"a + 1", "10 - a", "5"} {
			d := desk(t, numbers(3, 1, 4, 1, 5))
			d.Tag("P", api.Tag{Name: "A", Key: "a"})
			d.Order("P", "A")
			d.Filter("P", "a > 0")
			d.Go("P", 1)
			l, _ := cmd.Found(d, "P", scope(s))
			n, _ := cmd.Count(d.Copy(), "P", scope(s))
			m, e := cmd.Replace(d, "P", []string{"A", "B"}, xs(change, "b + 100"), scope(s))
			if n != len(l) || m != n || e != api.OK {
				t.Error(s, n, m, l)
			}
			tab, _ := d.Table("P")
			for i, r := range tab.Recs {
				want := i + 1
				if slices.Contains(l, want) {
					want += 100
				}
				if r.V[1] != num(want) {
					t.Error(fmt.Sprint(s, change, i, r))
				}
			}
		}
	}
}
