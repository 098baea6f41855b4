package shop_test

import (
	"fmt"
	"math/rand"
	"reflect"
	"slices"
	"strings"
	"sync"
	"testing"

	"cabinetry/api"
	"cabinetry/run"
	"cabinetry/shop"
	"cabinetry/vm"
)

// done makes a shop by orders that are right.
func done(t *testing.T, orders ...string) *shop.Shop {
	t.Helper()
	s := shop.New()
	all(t, s, orders...)
	return s
}

func all(t *testing.T, s *shop.Shop, orders ...string) {
	t.Helper()
	for _, order := range orders {
		if e := s.Do(order); e != api.OK {
			t.Fatalf("%s: %d", order, e)
		}
	}
}

// refused are orders with the error that each one must have; the shop stays as it is.
func refused(t *testing.T, s *shop.Shop, e api.Errno, orders ...string) {
	t.Helper()
	before := told(s)
	for _, order := range orders {
		if got := s.Do(order); got != e {
			t.Errorf("%q: %d, want %d", order, got, e)
		}
		if told(s) != before {
			t.Fatalf("%q has changed something", order)
		}
	}
	if !s.Audit() {
		t.Error("Audit")
	}
}

// told is all that a shop tells.
func told(s *shop.Shop) string {
	c, r, u := s.Counts()
	out := fmt.Sprint(s.Names(), s.Results(), c, r, u, s.Book())
	for _, name := range s.Names() {
		tab, ok := s.Table(name)
		out += fmt.Sprint(tab, ok, s.Tags(name))
	}
	return out
}

// numbers are the numbers of the records' first fields; those that are gone are negative.
func numbers(s *shop.Shop, name string) []int {
	tab, _ := s.Table(name)
	var out []int
	for _, r := range tab.Recs {
		n := r.V[0].N
		if r.Gone {
			n = -n
		}
		out = append(out, n)
	}
	return out
}

func last(s *shop.Shop) string {
	l := s.Results()
	return l[len(l)-1]
}

// Any order: ErrSyntax, then ErrLarge, then its own errors.
func TestForms(t *testing.T) {
	s := done(t, "table T N:N5,C:C5?")
	refused(t, s, api.ErrSyntax, "", " ", "x", "table", "table ", "table T", "table T ", "table  N:N5", " undo", "undo ", "undo x", "Undo", "table t A:L B:L", "table T A:L, B:L", "drop", "drop ", "drop T x", "drop T ", "drop  T", "add T", "add T ", "set T 1 N", "set T 1 N ", "set T  1 N 1", "set T 1  N 1", "del T", "del T ", "del T 1 ", "del T 1 2", "recall T", "pack T 1", "zap", "tag T A", "tag T A ", "tag T  N", "unique T A", "candidate T A", "untag T", "untag T A ", "untag T A B", "list T", "list T ", "order T", "order T A ", "sql", "sql ", "do", "do ", "vm", "vm ", "add T 1;'\x7f'", "add T 1;'\x1f'", "add T 1;'\u00e4'", "add T 1;'\n'", "add T 1;'\xff'", "\tundo", "list T "+strings.Repeat("1", 194))
	long := "list T " + strings.Repeat(" ", 192) + "N"
	if len(long) != api.MaxLine {
		t.Fatal(len(long))
	}
	all(t, s, long, "list T  .T. ")
	refused(t, s, api.ErrSyntax, long+" ")
}

// P28.1
func TestTable(t *testing.T) {
	s := done(t, "table T A:N5,B_1:C254?,C:D?,D:L,E:M?")
	want := api.Table{Page: 1, Fields: []api.Field{{Name: "A", Kind: api.Num, Width: 5}, {Name: "B_1", Kind: api.Text, Width: 254, Null: true}, {Name: "C", Kind: api.Date, Width: 8, Null: true}, {Name: "D", Kind: api.Truth, Width: 1}, {Name: "E", Kind: api.Memo, Width: 8, Null: true}}}
	if tab, ok := s.Table("T"); !ok || !reflect.DeepEqual(tab, want) {
		t.Error(tab)
	}
	if l := s.Tags("T"); len(l) != 0 {
		t.Error(l)
	}
	refused(t, s, api.ErrArg, "table t x", "table T:1 N:N5", "table ABCDEFGHIJK A:L", "table 1 A:L", "table U a:L", "table U A:N0", "table U A:N16", "table U A:C255", "table U A:N-1", "table U A:N-99999999999999999999", "table U n:N5", "table U A.B:L,A:L,A:L", "table U 1:N99", "table U ABCDEFGHIJK:L", "table U _:L", "drop t", "table t :L")
	refused(t, s, api.ErrSyntax, "table T A", "table T A:", "table T A:X", "table T A:n5", "table T A:N", "table T A:N?", "table T A:N05", "table T A:N+5", "table T A:N-0", "table T A:N5x", "table T A:N5??", "table T A:L1", "table T A:D8", "table T A:M8", "table T A:L,", "table T ,A:L", "table T A:N9223372036854775808", "table T A:B:L", "table T A:L B", "table U :N5", "table U :L", "table U A:L,:L", "table U :L,A:L,A:L", "table U n:L,:C3?", "table U :M,A:N99", "table U :", "table U ,", "table T :L")
	refused(t, s, api.ErrTwice, "table T A:L", "table T A:N99", "table U A:L,A:N5")
	many := "table U "
	for i := range 17 {
		many += fmt.Sprintf("A%d:L,", i)
	}
	refused(t, s, api.ErrLarge, strings.TrimSuffix(many, ","), "table U A:C254,B:C254,C:C254,D:C254,E:C254,F:C254,G:C254,H:C254")
	refused(t, s, api.ErrNone, "drop U")
	all(t, s, "table U A:L", "table V A:L", "table W A:L", "table X A:L", "table ABCDEFGHIJ A:L")
	refused(t, s, api.ErrLarge, "table Z A:L")
	refused(t, s, api.ErrArg, "table Z a:L")
	refused(t, s, api.ErrTwice, "table V A:L")
	if l := s.Names(); !slices.Equal(l, []string{"ABCDEFGHIJ", "T", "U", "V", "W", "X"}) {
		t.Error(l)
	}
	all(t, s, "drop V", "table Z A:L")
	if _, ok := s.Table("V"); ok || !s.Audit() {
		t.Error("V is there")
	}
}

func TestAdd(t *testing.T) {
	s := done(t, "table T N:N2,C:C3?,D:D,L:L,M:M?", "add T 1 + 1;'abcd  ';{^2024-02-29};.T.;7", "add T -9; .NULL. ;{};1 = 2;.NULL.", "add T VAL('12');UPPER(CHR(228));DATE(2024,1,1);'ab' = 'a';0")
	tab, _ := s.Table("T")
	num, text := func(n int) api.Value { return api.Value{Kind: api.Num, N: n} }, func(s string) api.Value { return api.Value{Kind: api.Text, S: s} }
	day, truth := func(n int) api.Value { return api.Value{Kind: api.Date, N: n} }, func(n int) api.Value { return api.Value{Kind: api.Truth, N: n} }
	if !reflect.DeepEqual(tab.Recs[0].V, []api.Value{num(2), text("abc"), day(738945), truth(1), num(7)}) {
		t.Error(tab.Recs[0])
	}
	if !reflect.DeepEqual(tab.Recs[1].V, []api.Value{num(-9), {}, day(0), truth(0), {}}) {
		t.Error(tab.Recs[1])
	}
	if v := tab.Recs[2].V; v[0] != num(12) || v[1].S == "" || v[3] != truth(0) {
		t.Error("exact", tab.Recs[2])
	}
	refused(t, s, api.ErrArg, "add t 1")
	refused(t, s, api.ErrNone, "add U (")
	refused(t, s, api.ErrSyntax, "add T (", "add T 1;N;3", "add T 1/0;RECNO()", "add T 1;DELETED()", "add T 1;;2", "add T ;", "add T 1;'a;b';{};.T.;0", "add T 1;{1};2", "add T 1;&x;2", "add T 1;a->b;2", "add T 1;"+strings.Repeat("-", 20)+"1")
	refused(t, s, api.ErrFit, "add T 1", "add T 1/0", "add T 1;'';{};.T.;0;0")
	refused(t, s, api.ErrType, "add T 1;'';{};.T.;1/0", "add T .NULL.;'';{};.T.;1/0", "add T 1;'';{};.T.;1 + 'a'", "add T 1;'';{};.T.;nothing(1)", "add T 1;2;{};.T.;0", "add T 'a';.NULL.;.NULL.;.T.;0")
	refused(t, s, api.ErrRule, "add T .NULL.;2;{};.T.;0")
	refused(t, s, api.ErrFit, "add T 100;.NULL.;.NULL.;.T.;0", "add T -10;'';{};.T.;0", "add T 1;'';{};.T.;100000000")
	all(t, s, "candidate T K N", "tag T Q 100 / (N - 5)")
	refused(t, s, api.ErrType, "add T 5;'';{};.T.;0", "set T 1 N 5")
	refused(t, s, api.ErrRule, "add T 2;'';{};.T.;0", "set T 1 N 12")
}

func TestSet(t *testing.T) {
	s := done(t, "table T N:N3,C:C3,M:M,Q:N3?", "add T 5;'ab';7;0", "add T 6;'x';8;0", "del T 2", "set T 1 N N + RECNO() + M", "set T 2 N IF(DELETED(),RECNO(),0)", "set T 1 C 'abcd ' + C", "set T 1 Q .NULL.", "set T 2 Q IF(C = '',1,2)", "set T 1 M 9")
	tab, _ := s.Table("T")
	num, text := func(n int) api.Value { return api.Value{Kind: api.Num, N: n} }, func(s string) api.Value { return api.Value{Kind: api.Text, S: s} }
	if !reflect.DeepEqual(tab.Recs, []api.Record{{V: []api.Value{num(13), text("abc"), num(9), {}}}, {Gone: true, V: []api.Value{num(2), text("x"), num(8), num(2)}}}) {
		t.Error(tab.Recs)
	}
	refused(t, s, api.ErrArg, "set t x n (")
	refused(t, s, api.ErrNone, "set U x n (")
	refused(t, s, api.ErrSyntax, "set T x X 1/0", "set T 9 X (", "set T 01 N 1", "set T +1 N 1", "set T -0 N 1", "set T 9223372036854775808 N 1", "set T 1x N 1", "set T 1 N "+strings.Repeat("-", 30)+"1")
	refused(t, s, api.ErrNone, "set T 0 N 1", "set T 3 N 1/0", "set T -1 N 1", "set T 9223372036854775807 N 1", "set T -9223372036854775809 N 1", "set T 1 X 1/0", "set T 1 n 1")
	refused(t, s, api.ErrType, "set T 1 N 1/0", "set T 1 N 'a'", "set T 1 N x", "set T 1 N T->N", "set T 1 N eof()")
	refused(t, s, api.ErrRule, "set T 1 N .NULL.")
	refused(t, s, api.ErrFit, "set T 1 N 1000", "set T 1 M -1")
}

func TestMarksAndPack(t *testing.T) {
	s := done(t, "table T N:N3", "add T 1", "add T 2", "add T 3", "candidate T K N")
	all(t, s, "del T 2", "del T 2", "del T 1", "recall T 1")
	if l := numbers(s, "T"); !slices.Equal(l, []int{1, -2, 3}) {
		t.Error(l)
	}
	all(t, s, "add T 2")
	refused(t, s, api.ErrRule, "recall T 2")
	for _, word := range []string{"del", "recall"} {
		refused(t, s, api.ErrArg, word+" t x")
		refused(t, s, api.ErrNone, word+" U x", word+" T 0", word+" T 5", word+" T -3")
		refused(t, s, api.ErrSyntax, word+" T x", word+" T 1.", word+" T 9223372036854775808")
	}
	for _, word := range []string{"pack", "zap"} {
		refused(t, s, api.ErrArg, word+" t")
		refused(t, s, api.ErrNone, word+" U")
	}
	all(t, s, "pack T", "pack T")
	if l := numbers(s, "T"); !slices.Equal(l, []int{1, 3, 2}) {
		t.Error(l)
	}
	all(t, s, "zap T", "list T .T.")
	if c, r, u := s.Counts(); last(s) != "list:" || c != 13 || r != 1 || u != 0 {
		t.Error(last(s), c, r, u)
	}
}

func TestTags(t *testing.T) {
	s := done(t, "table T N:N3,C:C3", "add T 3;'a'", "add T 1;'b'", "add T 3;'c'", "tag T A N", "unique T B N", "candidate T C UPPER(C) + ' '")
	want := []api.Tag{{Name: "A", Key: "N"}, {Name: "B", Key: "N", Uniq: 1}, {Name: "C", Key: "UPPER(C) + ' '", Uniq: 2}}
	if l := s.Tags("T"); !slices.Equal(l, want) {
		t.Error(l)
	}
	all(t, s, "order T A", "order T B", "order T C")
	if l := s.Results(); !slices.Equal(l, []string{"order: 2 1 3", "order: 2 1", "order: 1 2 3"}) {
		t.Error(l)
	}
	for _, word := range []string{"tag", "unique", "candidate"} {
		refused(t, s, api.ErrArg, word+" t A (", word+" T a (", word+" T ABCDEFGHIJK N")
		refused(t, s, api.ErrNone, word+" U a (")
		refused(t, s, api.ErrSyntax, word+" T A (", word+" T Z N N")
		refused(t, s, api.ErrTwice, word+" T A 1/0")
		refused(t, s, api.ErrType, word+" T Z 1/0", word+" T Z X")
	}
	refused(t, s, api.ErrRule, "candidate T Z N")
	refused(t, s, api.ErrArg, "untag t A", "order t A")
	refused(t, s, api.ErrNone, "untag U A", "untag T a", "untag T Z", "order U A", "order T a", "order T Z")
	all(t, s, "untag T B", "tag T D C", "tag T E C", "tag T F C", "tag T G C", "tag T H C", "tag T I C")
	refused(t, s, api.ErrLarge, "tag T J 1/0")
	if l := s.Tags("T"); len(l) != api.MaxTags || l[1].Name != "C" {
		t.Error(l)
	}
}

func TestUndo(t *testing.T) {
	s := done(t, "table T N:N3")
	all(t, s, "undo")
	refused(t, s, api.ErrState, "undo")
	if c, r, u := s.Counts(); len(s.Names()) != 0 || c != 1 || r != 0 || u != 1 {
		t.Error(s.Names(), c, r, u)
	}
	all(t, s, "table T N:N3", "tag T A N", "add T 4", "drop T", "undo")
	if l := s.Tags("T"); len(l) != 1 || !slices.Equal(numbers(s, "T"), []int{4}) {
		t.Error("T is not there again", l)
	}
	// Each kind of changes is undone; results are not.
	for _, order := range []string{"table U A:L", "drop T", "add T 5", "set T 1 N 9", "del T 1", "recall T 1", "pack T", "zap T", "tag T B N", "unique T B N", "candidate T B N", "untag T A"} {
		s := done(t, "table T N:N3", "add T 1", "add T 2", "tag T A N", "del T 1")
		before, tags := numbers(s, "T"), s.Tags("T")
		all(t, s, order, "do ? 1", "undo")
		if !slices.Equal(before, numbers(s, "T")) || !slices.Equal(tags, s.Tags("T")) || len(s.Names()) != 1 || len(s.Results()) != 1 || !s.Audit() {
			t.Error(order, numbers(s, "T"), s.Tags("T"), s.Results())
		}
	}
	// Ten changes are kept, of those that are not undone.
	s = done(t, "table T N:N3")
	for i := range 12 {
		all(t, s, fmt.Sprintf("add T %d", i))
	}
	all(t, s, "undo", "undo", "undo", "add T 70", "add T 71")
	if l := numbers(s, "T"); !slices.Equal(l, []int{0, 1, 2, 3, 4, 5, 6, 7, 8, 70, 71}) {
		t.Error(l)
	}
	for range 9 {
		all(t, s, "undo")
	}
	refused(t, s, api.ErrState, "undo")
	if l := numbers(s, "T"); !slices.Equal(l, []int{0, 1}) {
		t.Error(l)
	}
	if c, r, u := s.Counts(); c != 15 || r != 0 || u != 12 {
		t.Error(c, r, u)
	}
}

// P28.2
func TestList(t *testing.T) {
	for _, c := range [][2]string{{"N > 2", "1 3"}, {"N>1 .AND. .NOT. DELETED()", "1"}, {"C = 'a'", "3"}, {"C = 'ab' .OR. N = 9", "1 3"}, {".NULL.", ""}, {"N", ""}, {"C", ""}, {"RECNO() = 2", "2"}, {"  .T.  ", "1 2 3"}} {
		s := done(t, "table T N:N5,C:C3?", "add T 3;'ab'", "add T 1;.NULL.", "add T 9;'a'", "del T 3")
		for _, tag := range []string{"", "tag T A N", "tag T B C"} {
			if tag != "" {
				all(t, s, tag)
			}
			all(t, s, "list T "+c[0])
			if want := strings.TrimSuffix("list: "+c[1], " "); last(s) != want {
				t.Errorf("%s: %s, want %s", c[0], last(s), want)
			}
		}
	}
	s := done(t, "table T N:N5", "add T 0", "add T 1", "tag T A N")
	refused(t, s, api.ErrArg, "list t (")
	refused(t, s, api.ErrNone, "list U (", "list LIST .T.")
	refused(t, s, api.ErrSyntax, "list T (", "list T N N")
	refused(t, s, api.ErrLarge, "list T "+strings.Repeat("-", 30)+"1")
	refused(t, s, api.ErrType, "list T 1 / N = 1", "list T N > 0 .AND. X", "list T N = 1 .OR. 1 / N = 1")
	all(t, s, "list T N = 0 .OR. 1 / N = 1")
	if last(s) != "list: 1 2" {
		t.Error(last(s))
	}
}

func TestSQL(t *testing.T) {
	s := done(t, "table T N:N5,C:C3?,D:D", "table U K:N3", "sql select n from t", "add T 3;'b';{^2024-01-31}", "add T 1;.NULL.;{}", "add U 3")
	all(t, s, "sql select * from t", "sql select n, n = 1 from t order by 1 desc", "sql select c from t a, u b where a->n = b->k", "sql  select count(*) from u")
	if l := s.Results(); !slices.Equal(l, []string{"sql: ", "sql: 3,b,2024-01-31 / 1,NIL,    -  -  ", "sql: 3,.F. / 1,.T.", "sql: b", "sql: 1"}) {
		t.Errorf("%q", l)
	}
	refused(t, s, api.ErrSyntax, "sql x", "sql delete from t")
	refused(t, s, api.ErrNone, "sql select n from v", "sql select x from t")
	refused(t, s, api.ErrType, "sql select 1 / 0 from t")
	refused(t, shop.New(), api.ErrNone, "sql select n from v")
}

func TestPrograms(t *testing.T) {
	s := done(t, "table T N:N5", "add T 3", "add T 4", "tag T A -N")
	for _, c := range [][2]string{
		{"? 1 + 1|? 2", "done / 2 / 2"}, {"x = 1", "done"}, {"|", "done"}, {"? 1|? 1 / 0|? 2", "died 2 / 1"}, {"? 1|do while .T.|enddo", "tired"}, {"use t|? n|skip|? n, reccount()|zap|? reccount()", "done / 3 / 4 2 / 0"}, {"use t|set order to a", "died 7"}, {"use T|append blank|replace n with 9|? n|select x", "died 7 / 9"}, {"? chr(10) + 'a' + chr(200)", "done / ?a?"}, {"return 5", "done"}, {"?", "done / "},
	} {
		before := numbers(s, "T")
		for _, word := range []string{"do", "vm"} {
			s := done(t, "table T N:N5", "add T 3", "add T 4", "tag T A -N", word+" "+c[0])
			if last(s) != word+": "+c[1] || !slices.Equal(before, numbers(s, "T")) || !s.Audit() {
				t.Errorf("%s: %q, want %q", c[0], last(s), c[1])
			}
			if n, r, u := s.Counts(); n != 4 || r != 1 || u != 0 {
				t.Error(n, r, u)
			}
		}
	}
	refused(t, s, api.ErrSyntax, "do if", "vm if", "do ? (", "vm ~", "do b = {|x| x}")
	refused(t, s, api.ErrLarge, "do ? "+strings.Repeat("-", 30)+"1", "vm ? "+strings.Repeat("-", 30)+"1")
	_, _, e := run.Source("procedure p\nendproc", nil, nil)
	refused(t, s, e, "do procedure p|endproc")
	_, _, e = vm.Source("procedure p\nendproc", nil, nil)
	refused(t, s, e, "vm procedure p|endproc")
	// A result is cut off behind 1000 bytes.
	all(t, s, "do ? replicate('a', 991)", "do ? replicate('a', 990)", "vm for i = 1 to 100|? space(30) + chr(9)|next")
	l := s.Results()
	if l[0] != "do: done / "+strings.Repeat("a", 989) || l[1] != l[0] || len(l[2]) != 1000 || strings.Count(l[2], "?") == 0 {
		t.Errorf("%q", l)
	}
	all(t, s, "do ? replicate('a', 989)", "do ? replicate('a', 988)")
	if l := s.Results(); l[3] != l[0] || len(l[4]) != 999 {
		t.Error("a result that is not cut off")
	}
}

// P28.3
func TestAudit(t *testing.T) {
	words := []string{"table T N:N3,C:C4", "table U N:N3", "drop T", "drop U", "add T %d;'a'", "add T %d;'b'", "add U %d", "set T %d N N + %d", "set U %d N 1", "del T %d", "del U %d", "recall T %d", "pack T", "zap T", "tag T A N", "unique T B C", "candidate T C N", "tag U A -N", "candidate U K N", "untag T A", "untag T C", "undo", "undo", "list T N > %d", "order T A", "sql select n from t where n > %d union select n from u", "do use t|append blank|? reccount()", "vm ? %d", "x"}
	for seed := range 60 {
		r := rand.New(rand.NewSource(int64(seed)))
		orders := []string{words[0], words[1]}
		for range 100 {
			order := words[r.Intn(len(words))]
			for strings.Contains(order, "%d") {
				order = strings.Replace(order, "%d", fmt.Sprint(1+r.Intn(5)), 1)
			}
			orders = append(orders, order)
		}
		s := shop.New()
		var at []string
		for i, order := range orders {
			if e := s.Do(order); e == api.OK {
				at = append(at, told(s))
			}
			if i%20 == 0 && !s.Audit() {
				t.Fatal("Audit", orders[:i+1])
			}
		}
		if !s.Audit() {
			t.Fatal("Audit", orders)
		}
		// Replay of the first lines of a book makes the shop as it was after these orders.
		lines := strings.SplitAfter(s.Book(), "\n")
		for i := range at {
			again, n, e := shop.Replay(strings.Join(lines[:i+1], ""))
			if e != api.OK || n != i+1 || told(again) != at[i] || !again.Audit() {
				t.Fatal("Replay", i, n, e)
			}
		}
	}
}

func TestResultsAreCopies(t *testing.T) {
	s := done(t, "table T N:N3", "tag T A N", "add T 1", "list T .T.")
	before := told(s)
	tab, _ := s.Table("T")
	tab.Fields[0].Name, tab.Recs[0].V[0].N, tab.Recs[0].Gone = "X", 7, true
	s.Tags("T")[0].Name = "X"
	s.Results()[0] = "X"
	s.Names()[0] = "X"
	if told(s) != before || !s.Audit() {
		t.Error("results share memory")
	}
	if tab, ok := s.Table("X"); ok || !reflect.DeepEqual(tab, api.Table{}) || len(s.Tags("X")) != 0 {
		t.Error("no table")
	}
	if _, ok := s.Table(""); ok {
		t.Error("no table")
	}
}

func TestNoShop(t *testing.T) {
	for _, s := range []*shop.Shop{nil, {}} {
		c, r, u := s.Counts()
		_, ok := s.Table("T")
		if s.Do("table T N:N3") != api.ErrArg || s.Do("") != api.ErrArg || len(s.Names()) != 0 || ok || len(s.Tags("T")) != 0 || len(s.Results()) != 0 || c != 0 || r != 0 || u != 0 || s.Book() != "" || s.Audit() {
			t.Error("no shop")
		}
	}
	s := shop.New()
	if c, r, u := s.Counts(); len(s.Names()) != 0 || len(s.Results()) != 0 || c != 0 || r != 0 || u != 0 || s.Book() != "" || !s.Audit() {
		t.Error("a new shop")
	}
}

// Several goroutines use a shop: each order takes effect at one moment.
func TestGoroutines(t *testing.T) {
	s := done(t, "table T N:N3", "candidate T K N")
	var group sync.WaitGroup
	var lock sync.Mutex
	count := map[api.Errno]int{}
	for i := range 8 {
		group.Go(func() {
			for k := range 10 {
				e := s.Do(fmt.Sprintf("add T %d", (i+k)%5))
				s.Do("list T N > 2")
				lock.Lock()
				count[e]++
				lock.Unlock()
				s.Names()
				s.Results()
				s.Tags("T")
				if k == 5 && !s.Audit() {
					t.Error("Audit")
				}
			}
		})
	}
	group.Wait()
	l := numbers(s, "T")
	slices.Sort(l)
	if !slices.Equal(l, []int{0, 1, 2, 3, 4}) || count[api.OK] != 5 || count[api.OK]+count[api.ErrRule]+count[api.ErrLarge] != 80 || !s.Audit() {
		t.Error(l, count)
	}
}

// P28.4
func TestSum(t *testing.T) {
	for _, c := range []struct {
		n    int
		s    string
		want int
	}{{0, "", 0}, {1000033, "", 0}, {-1, "", 1000032}, {1000032, "", 1000032}, {0, "\x00", 1}, {0, "a", 98}, {1, "a", 361}, {0, "ab", 98*263 + 99}, {-1000034, "a", 98 + 1000032*263%1000033}, {0, "\xff\xff", 256*263 + 256}, {9223372036854775807, "", 9223372036854775807 % 1000033}} {
		if got := shop.Sum(c.n, c.s); got != c.want%1000033 {
			t.Errorf("Sum(%d,%q) = %d, want %d", c.n, c.s, got, c.want)
		}
	}
	if shop.Sum(-9223372036854775808, "") != shop.Sum(-9223372036854775808%1000033+1000033, "") {
		t.Error("the least number")
	}
}

func TestWriteAndRead(t *testing.T) {
	many := slices.Repeat([]string{"x"}, 61)
	book, e := shop.Write([]string{"a", " b ", "\x00\xff"})
	first := shop.Sum(0, "a")
	second := shop.Sum(first, " b ")
	if want := fmt.Sprintf("%d a\n%d  b \n%d \x00\xff\n", first, second, shop.Sum(second, "\x00\xff")); book != want || e != api.OK {
		t.Errorf("%q %d", book, e)
	}
	if s, e := shop.Write(nil); s != "" || e != api.OK {
		t.Error(s, e)
	}
	for i, c := range []struct {
		l []string
		e api.Errno
	}{{many, api.ErrLarge}, {append(slices.Clone(many), ""), api.ErrLarge}, {[]string{"a", ""}, api.ErrArg}, {[]string{"a\n"}, api.ErrArg}, {[]string{strings.Repeat("a", 201)}, api.ErrArg}, {[]string{strings.Repeat("a", 200)}, api.OK}, {many[:60], api.OK}} {
		s, e := shop.Write(c.l)
		if e != c.e || (e != api.OK) != (s == "") {
			t.Error(i, e)
		}
		if e == api.OK {
			if l, rest := shop.Read(s); !slices.Equal(l, c.l) || rest != "" {
				t.Error("Read", i, rest)
			}
		}
	}
	full, _ := shop.Write(many[:60])
	next := fmt.Sprintf("%s x\n", strings.Fields(full)[0])
	for _, c := range []struct {
		s    string
		n    int
		rest string
	}{
		{"", 0, ""}, {"98 a\n", 1, ""}, {"98 a", 0, "98 a"}, {"98 a\nx", 1, "x"}, {"99 a\n", 0, "99 a\n"}, {"098 a\n", 0, "098 a\n"}, {"+98 a\n", 0, "+98 a\n"}, {"98\ta\n", 0, "98\ta\n"}, {"98  a\n", 0, "98  a\n"}, {"0 \n", 0, "0 \n"}, {"0\n", 0, "0\n"}, {"\n", 0, "\n"}, {"98 a\n98 a\n", 1, "98 a\n"}, {full + next, 60, next}, {fmt.Sprintf("%d %s\n", shop.Sum(0, strings.Repeat("a", 201)), strings.Repeat("a", 201)), 0, "all"},
	} {
		l, rest := shop.Read(c.s)
		if c.rest == "all" {
			c.rest = c.s
		}
		if len(l) != c.n || rest != c.rest {
			t.Errorf("Read %q: %q %q", c.s, l, rest)
		}
	}
	sixty := "0"
	sum, text := 0, ""
	for range 61 {
		sum = shop.Sum(sum, sixty)
		text += fmt.Sprintf("%d %s\n", sum, sixty)
	}
	if l, rest := shop.Read(text); len(l) != 60 || strings.Count(rest, "\n") != 1 {
		t.Error(len(l), rest)
	}
}

// A byte that is altered is found.
func TestAlteredBook(t *testing.T) {
	s := done(t, "table T N:N3", "add T 1", "list T .T.", "undo")
	book := s.Book()
	if l, rest := shop.Read(book); rest != "" || !slices.Equal(l, []string{"table T N:N3", "add T 1", "list T .T.", "undo"}) {
		t.Error(l, rest)
	}
	for i := range len(book) {
		b := []byte(book)
		b[i] ^= 1
		l, rest := shop.Read(string(b))
		if n := strings.Count(book[:i], "\n"); len(l) != n || rest == "" {
			t.Error("altered", i, len(l), n)
		}
		if s, n, e := shop.Replay(string(b)); s != nil || n != 0 || e != api.ErrBroken {
			t.Error("Replay", i, n, e)
		}
	}
}

func TestFullBook(t *testing.T) {
	s := shop.New()
	for range 60 {
		all(t, s, "do ? 1")
	}
	refused(t, s, api.ErrLarge, "do ? 1", "undo", "table t x", "add T (")
	refused(t, s, api.ErrSyntax, "do", "x")
	if again, n, e := shop.Replay(s.Book()); n != 60 || e != api.OK || told(again) != told(s) {
		t.Error(n, e)
	}
}

// P28.5
func TestReplay(t *testing.T) {
	for i, c := range []struct {
		orders []string
		n      int
		e      api.Errno
	}{{nil, 0, api.OK}, {[]string{"table T N:N3", "add T 1"}, 2, api.OK}, {[]string{"x"}, 0, api.ErrSyntax}, {[]string{"table T N:N3", "add T 'a'", "x"}, 1, api.ErrType}, {[]string{"table T N:N3", "table T N:N3"}, 1, api.ErrTwice}, {[]string{"undo"}, 0, api.ErrState}} {
		book, _ := shop.Write(c.orders)
		s, n, e := shop.Replay(book)
		if n != c.n || e != c.e || (s == nil) != (e != api.OK) {
			t.Error(i, n, e)
		}
		if e == api.OK && (s.Book() != book || !s.Audit()) {
			t.Error(i, s.Book())
		}
	}
	if s, n, e := shop.Replay("98 a"); s != nil || n != 0 || e != api.ErrBroken {
		t.Error(n, e)
	}
}

func TestMerge(t *testing.T) {
	book := func(l ...string) string {
		s, _ := shop.Write(l)
		return s
	}
	for i, c := range []struct {
		a, b, want string
		n          int
		e          api.Errno
	}{
		{"", "", "", 0, api.OK}, {book("a"), "", book("a"), 1, api.OK}, {"", book("a", "b"), book("a", "b"), 2, api.OK}, {book("a", "b"), book("a", "b"), book("a", "b"), 2, api.OK}, {book("a", "b"), book("a"), book("a", "b"), 2, api.OK}, {book("a", "b"), book("a", "b", "c"), book("a", "b", "c"), 3, api.OK}, {book("a"), book("b"), "", 0, api.ErrProof}, {book("a", "b", "c"), book("a", "x"), "", 1, api.ErrProof}, {book("a", "x"), book("a", "b", "c"), "", 1, api.ErrProof}, {"x", book("a"), "", 0, api.ErrBroken}, {book("a"), book("b") + "\n", "", 0, api.ErrBroken}, {book("a", "b") + "1", book("a", "x"), "", 0, api.ErrBroken},
	} {
		if s, n, e := shop.Merge(c.a, c.b); s != c.want || n != c.n || e != c.e {
			t.Errorf("Merge %d: %q %d %d", i, s, n, e)
		}
	}
}

func TestRun(t *testing.T) {
	l, book, e := shop.Run([]string{"table T N:N3", "x", "add T 'a'", "add T 1", "undo"})
	want, _ := shop.Write([]string{"table T N:N3", "add T 1", "undo"})
	if !slices.Equal(l, []api.Errno{api.OK, api.ErrSyntax, api.ErrType, api.OK, api.OK}) || book != want || e != api.OK {
		t.Error(l, book, e)
	}
	if l, book, e := shop.Run(nil); len(l) != 0 || book != "" || e != api.OK {
		t.Error(l, book, e)
	}
	if l, book, e := shop.Run(make([]string, 61)); len(l) != 0 || book != "" || e != api.ErrLarge {
		t.Error(l, book, e)
	}
	if l, _, e := shop.Run(make([]string, 60)); len(l) != 60 || l[59] != api.ErrSyntax || e != api.OK {
		t.Error(l, e)
	}
}

// The examples of the chapter.
func TestExamples(t *testing.T) {
	s := done(t, "table T N:N5", "add T 3", "list T N > 2", "do ? 1 + 1|? 2", "drop T", "undo")
	if l := s.Results(); !slices.Equal(l, []string{"list: 1", "do: done / 2 / 2"}) || !slices.Equal(s.Names(), []string{"T"}) {
		t.Error(l, s.Names())
	}
}
