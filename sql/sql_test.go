package sql_test

import (
	"fmt"
	"math/rand"
	"reflect"
	"slices"
	"strings"
	"testing"

	"cabinetry/api"
	"cabinetry/bag"
	"cabinetry/sql"
	"cabinetry/table"
	"cabinetry/val"
)

func num(n int) api.Value     { return api.Value{Kind: api.Num, N: n} }
func text(s string) api.Value { return api.Value{Kind: api.Text, S: s} }

// people has a name, a number that may be Nil (0 here), and a city; a name that begins with - is gone.
func people(l ...any) api.Table {
	t := api.Table{Page: 1, Fields: []api.Field{{Name: "NAME", Kind: api.Text, Width: 8}, {Name: "N", Kind: api.Num, Width: 4, Null: true}, {Name: "CITY", Kind: api.Num, Width: 2}}}
	for i := 0; i < len(l); i += 3 {
		name, gone := strings.CutPrefix(l[i].(string), "-")
		r := api.Record{Gone: gone, V: []api.Value{text(name), num(l[i+1].(int)), num(l[i+2].(int))}}
		if r.V[1].N == 0 {
			r.V[1] = api.Value{}
		}
		t.Recs = append(t.Recs, r)
	}
	return t
}

func cities(l ...any) api.Table {
	t := api.Table{Page: 1, Fields: []api.Field{{Name: "ID", Kind: api.Num, Width: 2}, {Name: "TOWN", Kind: api.Text, Width: 8}}}
	for i := 0; i < len(l); i += 2 {
		t.Recs = append(t.Recs, api.Record{V: []api.Value{num(l[i].(int)), text(l[i+1].(string))}})
	}
	return t
}

var names = []string{"P", "C", "E"}

func tables() []api.Table {
	return []api.Table{people("bob", 5, 1, "al", 3, 2, "-gone", 9, 1, "cy", 0, 1, "bob", 3, 2), cities(1, "rome", 2, "oslo", 3, "bern"), people()}
}

func shown(rows [][]api.Value) string {
	var out []string
	for _, r := range rows {
		var l []string
		for _, v := range r {
			s, _ := val.Show(v)
			l = append(l, s)
		}
		out = append(out, strings.Join(l, ","))
	}
	return strings.Join(out, " ")
}

func bags(t *testing.T, tabs []api.Table) []*bag.Bag {
	t.Helper()
	var l []*bag.Bag
	for _, tab := range tabs {
		b, e := bag.New(tab)
		if e != api.OK {
			t.Fatal(e)
		}
		for _, f := range tab.Fields {
			if e := b.Add(api.Tag{Name: f.Name, Key: f.Name}); e != api.OK {
				t.Fatal(e)
			}
		}
		l = append(l, b)
	}
	return l
}

// P25.1
func TestQueries(t *testing.T) {
	for s, want := range map[string]string{
		"select sum((n)), (max(1, 2)) as m from e":                                        "EXP1,M: NIL,NIL",
		"select count(*), sum(n) from e":                                                  "EXP1,EXP2: 0,NIL",
		"select a->n, b->n from p a, p b where a->n < b->n":                               "N,N: 3,5 3,5",
		"select n from p union select n from p":                                           "N: 5 3 NIL",
		"select * from p":                                                                 "NAME,N,CITY: bob,5,1 al,3,2 cy,NIL,1 bob,3,2",
		"select * from p, c where city = id":                                              "NAME,N,CITY,ID,TOWN: bob,5,1,1,rome al,3,2,2,oslo cy,NIL,1,1,rome bob,3,2,2,oslo",
		"SELECT name As who, n + 1, p->city, upper(name) as u FROM p WHERE n > 3":         "WHO,EXP2,CITY,U: bob,6,1,BOB",
		"select distinct name from p":                                                     "NAME: bob al cy",
		"select distinct name, n from p order by 1, n desc":                               "NAME,N: al,3 bob,5 bob,3 cy,NIL",
		"select n from p order by n":                                                      "N: NIL 3 3 5",
		"select n as x, name from p order by x desc, name desc":                           "X,NAME: 5,bob 3,bob 3,al NIL,cy",
		"select city, count(*), count(n), sum(n), min(name), max(n) from p group by city": "CITY,EXP2,EXP3,EXP4,EXP5,EXP6: 1,2,1,5,bob,5 2,2,2,6,al,3",
		"select city, name from p group by city":                                          "CITY,NAME: 1,bob 2,al",
		"select n from p group by n":                                                      "N: 5 3 NIL",
		"select * from p group by n, city":                                                "NAME,N,CITY: bob,5,1 al,3,2 cy,NIL,1",
		"select city, count(*) as k from p group by city having k > 1 .and. city = 2":     "CITY,K: 2,2",
		"select name, n from p having n = 3":                                              "NAME,N: al,3 bob,3",
		"select n + 1 from p having exp1 > 5":                                             "EXP1: 6",
		"select n, n * 2 as n from p having n = 5":                                        "N,N: 5,10",
		"select city from p group by n + 0 having .null.":                                 "CITY: ",
		"select name from p where .null.":                                                 "NAME: ",
		"select name from p where n":                                                      "NAME: ",
		"select min(n, city) from p where n = 5":                                          "EXP1: 1",
		"select max(n) - 1 from p where .f.":                                              "EXP1: ",
		"select count(*) from p where .f.":                                                "EXP1: 0",
		"select name, count(*) from e":                                                    "NAME,EXP2: NIL,0",
		"select max(n), name from e group by name":                                        "EXP1,NAME: ",
		"select name from p union all select town from c order by 1":                      "NAME: al bern bob bob cy oslo rome",
		"select city from p union all select id from c union select id from c":            "CITY: 1 2 3",
		"select city from p union select id from c union all select id from c":            "CITY: 1 2 3 1 2 3",
		"select recno() from p":                                                           "EXP1: 1 2 4 5",
		"select recno(), deleted(), town from c, p where name = 'cy'":                     "EXP1,EXP2,TOWN: 1,.F.,rome 2,.F.,oslo 3,.F.,bern",
		"select name from p where name = 'bo'":                                            "NAME: ",
		"select name from p, e":                                                           "error 7",
		"select p->name from p, e":                                                        "NAME: ",
		"select (n) from p where n = 5":                                                   "N: 5",
		"select -n ;\n from p where n = 5":                                                "EXP1: -5",
		"select nvl(n, 0) as order1 from p order by order1":                               "ORDER1: 0 3 3 5",
		"select x->town as t from c x where x->id = 2":                                    "T: oslo",
	} {
		tabs := tables()
		cols, rows, e := sql.Query(s, names, tabs)
		got := strings.Join(cols, ",") + ": " + shown(rows)
		if e != api.OK {
			got = "error " + fmt.Sprint(int(e))
		}
		if got != want {
			t.Errorf("%s: %s, want %s", s, got, want)
		}
		bcols, brows, be := sql.QueryBags(s, names, bags(t, tabs))
		if !slices.Equal(cols, bcols) || shown(rows) != shown(brows) || e != be {
			t.Errorf("QueryBags %s: %v %d", s, shown(brows), be)
		}
		named, e2 := sql.Columns(s, names, tabs)
		if !slices.Equal(named, cols) || e2 != e {
			t.Errorf("Columns %s: %v %d", s, named, e2)
		}
	}
}

func TestQueryErrors(t *testing.T) {
	big := people()
	for range 150 {
		big.Recs = append(big.Recs, people("x", 1, 1).Recs...)
	}
	other := cities(1, "a")
	other.Page = 0
	names := []string{"P", "C", "B", "O", "E"}
	tabs := append(tables()[:2], big, other, people())
	tabs[0].Recs = append(tabs[0].Recs, people("z", 9, 9).Recs...)
	for i, c := range []struct {
		s string
		e api.Errno
	}{
		{"select", api.ErrSyntax}, {"insert into p (n) values (1)", api.ErrSyntax}, {"select x from z", api.ErrNone}, {"select x from p union select n from z", api.ErrNone}, {"select x from p a, p a", api.ErrTwice}, {"select x from p", api.ErrNone}, {"select q->n from p", api.ErrNone}, {"select p->n from p a", api.ErrNone}, {"select p->x from p", api.ErrNone},
		{"select n, x from p a, p b", api.ErrRule}, {"select x, n from p a, p b", api.ErrNone}, {"select x from p a, p b where n = 1", api.ErrRule}, {"select n from p a, p b group by x", api.ErrNone}, {"select n from p having x = 1", api.ErrNone}, {"select n from p having p->n = 1", api.ErrNone}, {"select n from p having n = 1 .or. p->(n) = 1", api.ErrNone}, {"select n from p having q->n = 1", api.ErrNone}, {"select n from p having p->x = 1", api.ErrNone}, {"select n from e having e->n = 1", api.ErrNone}, {"select n from p a having a->n = 1", api.ErrNone}, {"select p->n from p having p->n = 1", api.ErrNone}, {"select n from p where name > 1 having p->n = 1", api.ErrNone}, {"select n from p having upper(p->name) = 'A' .and. n / 0 = 1", api.ErrNone},
		{"select n from p having eval({|a| a + p->n}, 1) = 1", api.ErrNone}, {"select n from p having eval({|a| a + name}, 1) = 1", api.ErrNone}, {"select n from p having eval({|a| a + n}, 1) = 1", api.ErrType}, {"select n from p having p->(n + 1) = 1", api.ErrType}, {"select n from p having city = 1", api.ErrNone}, {"select n, p->city from p having city = 9", api.OK}, {"select n, city as n from p having city = 9", api.ErrNone}, {"select q from p having p->n = 1", api.ErrNone}, {"select n from p a, p b having a->n = 1", api.ErrRule},
		{"select x from p having n = 1", api.ErrNone}, {"select n, q from p, o", api.ErrNone}, {"select n from p, o", api.ErrFit}, {"select name + 1 from p, o", api.ErrFit},
		{"select x from b a, b b", api.ErrLarge}, {"select x from b a, b b, e", api.ErrNone}, {"select n from p where name > 1", api.ErrType}, {"select name + 1 from p", api.ErrType}, {"select n from p group by name + 1", api.ErrType}, {"select n from p having n / 0 = 1", api.ErrType}, {"select sum(name) from p", api.ErrType}, {"select sum(n + name) from p", api.ErrType}, {"select (sum(n)) from p", api.ErrType}, {"select (max(n)) from p", api.ErrType}, {"select sum(n) + 1 from p", api.ErrType},
		{"select min(if(city = 1, n, name)) from p", api.ErrType}, {"select sum(999999999999999) from p", api.ErrLarge}, {"select sum(999999999999999), name + 1 from p", api.ErrLarge}, {"select name + 1, sum(999999999999999) from p", api.ErrType}, {"select n, city from p union select n from p", api.ErrFit}, {"select n from p union select name + 1 from p", api.ErrType}, {"select n from p union select name from p order by 1", api.ErrType}, {"select n from p order by x", api.ErrNone}, {"select n from p order by 2", api.ErrNone}, {"select n from p order by 0", api.ErrNone},
		{"select name from b a, c where id < 3", api.OK}, {"select name from b a, c", api.ErrLarge}, {"select distinct name from b a, c", api.OK}, {"select a->(n + 1) from p a", api.ErrType}, {"select {1} from p", api.ErrType}, {"select n from p where {|x| x} = 1", api.ErrType}, {"select n from p where &m", api.ErrType},
	} {
		cols, rows, e := sql.Query(c.s, names, tabs)
		if e != c.e || e != api.OK && (cols != nil || rows != nil) {
			t.Errorf("%s: %d, want %d", c.s, e, c.e)
		}
		if _, _, e := sql.QueryBags(c.s, names, bags(t, tabs)); e != c.e && c.e != api.ErrType {
			t.Errorf("QueryBags %d: %d", i, e)
		}
	}
	q := "select x from x"
	for i, c := range []struct {
		names []string
		tabs  []api.Table
		e     api.Errno
	}{{[]string{"a"}, nil, api.ErrFit}, {[]string{"A", "a"}, make([]api.Table, 2), api.ErrArg}, {[]string{"A", "A"}, make([]api.Table, 2), api.ErrTwice}, {[]string{"A"}, make([]api.Table, 1), api.ErrArg}, {nil, nil, api.ErrNone}} {
		_, _, e1 := sql.Query(q, c.names, c.tabs)
		_, e2 := sql.Columns(q, c.names, c.tabs)
		_, _, e3 := sql.Change("delete from x", c.names, c.tabs)
		if e1 != c.e || e2 != c.e || e3 != c.e {
			t.Errorf("case %d: %d %d %d", i, e1, e2, e3)
		}
	}
	if _, _, e := sql.QueryBags(q, []string{"A"}, []*bag.Bag{nil}); e != api.ErrState {
		t.Error(e)
	}
	if _, e := sql.Asked(q, []string{"A"}, nil); e != api.ErrFit {
		t.Error(e)
	}
}

func TestCheck(t *testing.T) {
	for _, c := range []struct {
		s  string
		at int
		e  api.Errno
	}{
		{"", 0, api.ErrSyntax}, {"~", 0, api.ErrSyntax}, {"select n ~", 9, api.ErrSyntax}, {strings.Repeat(" ", 4001), 0, api.ErrLarge}, {"selec n from p", 0, api.ErrSyntax}, {"select n", 2, api.ErrSyntax}, {"select", 1, api.ErrSyntax}, {"select from p", 1, api.ErrSyntax}, {"select n from", 3, api.ErrSyntax}, {"select n from p", 5, api.OK}, {"select n from p q r", 5, api.ErrSyntax},
		{"select n from where", 3, api.ErrSyntax}, {"select n as from from p", 3, api.ErrSyntax}, {"select n from p where", 5, api.ErrSyntax}, {"select n from p where n >", 7, api.ErrSyntax}, {"select n from p where n > > 1", 7, api.ErrSyntax}, {"select n from p where (n", 7, api.ErrSyntax}, {"select n from p where (n from", 7, api.ErrSyntax}, {"select n from p where n 5", 6, api.ErrSyntax}, {"select n + from p", 3, api.ErrSyntax}, {"select n, from p", 3, api.ErrSyntax},
		{"select count(*) from p", 8, api.OK}, {"select count(* 2) from p", 4, api.ErrSyntax}, {"select count(n, m) from p", 10, api.OK}, {"select count(*) + 1 from p", 5, api.ErrSyntax}, {"select *, n from p", 2, api.ErrSyntax}, {"select distinct * from p", 6, api.OK}, {"select * 2 from p", 2, api.ErrSyntax}, {"select n from p group n", 5, api.ErrSyntax}, {"select n from p group by n having (n) > 1 union all select 1 from q order by 1 desc, n", 26, api.OK},
		{"select n from p order by n + 1", 7, api.ErrSyntax}, {"select n from p order by n union select n from p", 7, api.ErrSyntax}, {"select n from p\nselect", 5, api.ErrSyntax}, {"select n from p && x\n", 5, api.OK}, {"select n from abcdefghijk", 3, api.ErrSyntax}, {"select abcdefghijk from p", 1, api.ErrSyntax}, {"select sum from p", 1, api.ErrSyntax}, {"select sum(n) s from p", 5, api.ErrSyntax}, {"select " + strings.Repeat("-", 14) + "n from p", 0, api.ErrLarge}, {"select " + strings.Repeat("-", 14) + "n from", 17, api.ErrSyntax},
		{"insert into p (n, m) values (1, 2 + 3)", 17, api.OK}, {"insert p (n) values (1)", 1, api.ErrSyntax}, {"insert into p () values (1)", 4, api.ErrSyntax}, {"insert into p (n) values ()", 8, api.ErrSyntax}, {"insert into p (n) values (1", 9, api.ErrSyntax}, {"insert into p (n) values (1, 2) x", 12, api.ErrSyntax}, {"update p set n = 1, m = n + 1 where n = m", 17, api.OK}, {"update p set n := 1", 4, api.ErrSyntax}, {"update p n = 1", 2, api.ErrSyntax}, {"delete from p", 4, api.OK}, {"delete p", 1, api.ErrSyntax}, {"delete from p where", 4, api.ErrSyntax},
		{"select f(" + strings.Repeat("1,", 300) + "1) from p where n$'x'", 612, api.OK},
	} {
		if n, e := sql.Check(c.s); n != c.at || e != c.e {
			t.Errorf("Check %.40s: %d %d, want %d %d", c.s, n, e, c.at, c.e)
		}
	}
}

// P25.2
func TestTables(t *testing.T) {
	for s, want := range map[string]string{"select n from p a, q union select n from p": "P Q", "delete from x": "X", "insert into y (n) values (1)": "Y", "update z set n = 1": "Z"} {
		if l, e := sql.Tables(s); strings.Join(l, " ") != want || e != api.OK {
			t.Errorf("Tables %s: %v", s, l)
		}
	}
	if _, e := sql.Tables("select"); e != api.ErrSyntax {
		t.Error(e)
	}
}

func TestChange(t *testing.T) {
	for s, want := range map[string]string{
		"insert into p (n, name) values (1 + 1, 'new')":          "1: bob,5,1 al,3,2 -gone,9,1 cy,NIL,1 bob,3,2 new,2,0",
		"insert into p (n) values (.null.)":                      "1: bob,5,1 al,3,2 -gone,9,1 cy,NIL,1 bob,3,2 ,NIL,0",
		"update p set n = city, city = n + 1 where n > 3":        "1: bob,1,6 al,3,2 -gone,9,1 cy,NIL,1 bob,3,2",
		"update p set name = 'long enough' where p->name = 'al'": "1: bob,5,1 long eno,3,2 -gone,9,1 cy,NIL,1 bob,3,2",
		"update p set city = recno()":                            "4: bob,5,1 al,3,2 -gone,9,1 cy,NIL,4 bob,3,5",
		"delete from p where n = 3":                              "2: bob,5,1 -al,3,2 -gone,9,1 cy,NIL,1 -bob,3,2",
		"delete from p":                                          "4: -bob,5,1 -al,3,2 -gone,9,1 -cy,NIL,1 -bob,3,2",
		"delete from p where .f.":                                "0: bob,5,1 al,3,2 -gone,9,1 cy,NIL,1 bob,3,2",
		"insert into p (n, x) values (1)":                        "error 4",
		"insert into p (n, n) values (y)":                        "error 4",
		"insert into p (n, n) values (1)":                        "error 5",
		"insert into p (n) values (1, 2)":                        "error 10",
		"insert into p (n) values (p->n)":                        "error 4",
		"insert into p (n) values (1 / 0)":                       "error 6",
		"insert into p (city, n) values (.null., 'a')":           "error 7",
		"insert into p (n, city) values ('a', .null.)":           "error 6",
		"insert into p (n) values (99999)":                       "error 10",
		"update p set x = 1":                                     "error 4",
		"update p set n = y":                                     "error 4",
		"update p set n = 1 where y = 1":                         "error 4",
		"update p set n = 1, n = 2":                              "error 5",
		"update p set n = 1 where name > 1":                      "error 6",
		"update p set n = 'a', city = n / 0":                     "error 6",
		"update p set n = 100 / (n - 3)":                         "error 6",
		"update p set n = 99999 * (city - 1)":                    "error 10",
		"select n from p":                                        "error 2",
		"delete from z":                                          "error 4",
	} {
		in := tables()
		out, n, e := sql.Change(s, names, in)
		got := "error " + fmt.Sprint(int(e))
		if e == api.OK {
			var l []string
			for _, r := range out[0].Recs {
				row := shown([][]api.Value{r.V})
				if r.Gone {
					row = "-" + row
				}
				l = append(l, row)
			}
			got = fmt.Sprint(n) + ": " + strings.Join(l, " ")
			if len(out) != 3 || table.Validate(out[0]) != api.OK {
				t.Error("tables", len(out))
			}
		}
		if got != want {
			t.Errorf("%s: %s, want %s", s, got, want)
		}
		if !reflect.DeepEqual(in, tables()) {
			t.Error("an argument was changed")
		}
	}
	full := people()
	for range 300 {
		full.Recs = append(full.Recs, people("x", 1, 1).Recs...)
	}
	if _, _, e := sql.Change("insert into p (n) values (1)", []string{"P"}, []api.Table{full}); e != api.ErrLarge {
		t.Error(e)
	}
}

// P25.3
func TestSortedAndDistinct(t *testing.T) {
	rows := [][]api.Value{{num(2), text("b")}, {num(1), text("c")}, {{}, text("a")}, {num(2), text("a")}, {num(2), text("b")}}
	if l, e := sql.Sorted(rows, []int{0, 1}, []bool{true, false}); shown(l) != "2,a 2,b 2,b 1,c NIL,a" || e != api.OK {
		t.Error(shown(l), e)
	}
	if l, e := sql.Sorted(rows, nil, nil); shown(l) != shown(rows) || e != api.OK {
		t.Error(shown(l), e)
	}
	if l, e := sql.Distinct(rows); shown(l) != "2,b 1,c NIL,a 2,a" || e != api.OK {
		t.Error(shown(l), e)
	}
	bad := [][]api.Value{{{N: 1}}}
	for i, c := range []struct {
		rows [][]api.Value
		by   []int
		down []bool
		e    api.Errno
	}{
		{make([][]api.Value, 40001), []int{-1}, nil, api.ErrLarge}, {bad, []int{5}, nil, api.ErrArg}, {rows, []int{-1}, nil, api.ErrArg}, {rows, []int{0}, nil, api.ErrFit}, {rows, []int{2}, []bool{true}, api.ErrFit}, {[][]api.Value{{num(1)}, {text("a")}}, []int{0}, []bool{true}, api.ErrType}, {[][]api.Value{{num(1)}, {{}}}, []int{0}, []bool{true}, api.OK}, {nil, []int{7}, []bool{true}, api.OK},
	} {
		if _, e := sql.Sorted(c.rows, c.by, c.down); e != c.e {
			t.Errorf("Sorted %d: %d, want %d", i, e, c.e)
		}
	}
	_, e1 := sql.Distinct(make([][]api.Value, 40001))
	_, e2 := sql.Distinct(bad)
	if e1 != api.ErrLarge || e2 != api.ErrArg {
		t.Error(e1, e2)
	}
	if l, e := sql.Distinct([][]api.Value{{text("1 "), num(0)}, {text("1"), num(0)}, {num(1)}, {}, {}}); len(l) != 4 || e != api.OK {
		t.Error(len(l))
	}
	l, _ := sql.Sorted(rows, nil, nil)
	l[0][0] = num(9)
	if rows[0][0] != num(2) {
		t.Error("memory is shared")
	}
}

// A query gives with tags what it gives without.
func TestAnyQuery(t *testing.T) {
	fewer := 0
	for seed := range 2500 {
		r := rand.New(rand.NewSource(int64(seed)))
		pick := func(l ...string) string { return l[r.Intn(len(l))] }
		p, c := people(), cities()
		for range r.Intn(8) {
			p.Recs = append(p.Recs, people(pick("a", "b", "-c", "ab"), r.Intn(5), r.Intn(3)).Recs...)
		}
		for range r.Intn(4) {
			c.Recs = append(c.Recs, cities(r.Intn(3), pick("x", "y")).Recs...)
		}
		cond := func() string {
			return pick("n > 2", "name = 'a'", "p->city = 1", "city = id", "n = recno()", "town >= 'y'", "c->id < 2", "2 <= n", "n = 'a'", "isnull(n)", ".t.", "n", "p->n")
		}
		where := cond()
		for range r.Intn(3) {
			where = "(" + where + ")" + pick(" .and. ", " .and. ", " .or. ") + cond()
		}
		from := pick("p, c", "c, p", "p, c", "p p, c c")
		if !strings.Contains(where, "id") && !strings.Contains(where, "town") && r.Intn(2) == 0 {
			from = "p"
		}
		s := "select " + pick("*", "distinct name, n", "name, n + city as k", "count(*), min(n)", "city, sum(n)") + " from " + from + " where " + where + pick("", " group by city", " group by n, name") + pick("", " order by 1")
		tabs := []api.Table{p, c}
		_, rows, e := sql.Query(s, names[:2], tabs)
		_, brows, be := sql.QueryBags(s, names[:2], bags(t, tabs))
		if e == api.ErrType {
			continue
		}
		if e != be || shown(rows) != shown(brows) {
			t.Fatalf("%s: %s (%d), with tags %s (%d)", s, shown(rows), e, shown(brows), be)
		}
		n, _ := sql.Asked(s, names[:2], bags(t, tabs))
		all := 0
		for range p.Recs {
			all++
		}
		if from != "p" {
			all *= len(c.Recs)
		}
		if n > all {
			t.Fatal("Asked", n, all)
		}
		if n < all {
			fewer++
		}
	}
	if fewer < 100 {
		t.Error("the tags are of no use", fewer)
	}
}
