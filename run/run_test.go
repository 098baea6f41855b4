package run_test

import (
	"slices"
	"strings"
	"testing"

	"cabinetry/api"
	"cabinetry/run"
	"cabinetry/table"
	"cabinetry/tree"
)

func num(n int) api.Value     { return api.Value{Kind: api.Num, N: n} }
func text(s string) api.Value { return api.Value{Kind: api.Text, S: s} }

func people() api.Table {
	t := api.Table{Page: 1, Fields: []api.Field{{Name: "NAME", Kind: api.Text, Width: 6}, {Name: "AGE", Kind: api.Num, Width: 4}, {Name: "NOTE", Kind: api.Num, Width: 4, Null: true}}}
	for i, s := range []string{"bob", "al", "cy", "bobby"} {
		t.Recs = append(t.Recs, api.Record{Gone: i == 2, V: []api.Value{text(s), num(10 * (i + 1)), {}}})
	}
	return t
}

func others() api.Table {
	t := api.Table{Fields: []api.Field{{Name: "AGE", Kind: api.Num, Width: 4}, {Name: "X", Kind: api.Num, Width: 4}}}
	for i := range 3 {
		t.Recs = append(t.Recs, api.Record{V: []api.Value{num(10 * (i + 1)), num(i)}})
	}
	return t
}

// outcome is what a source tells, in one line.
func outcome(t *testing.T, s string) string {
	t.Helper()
	o, tables, e := run.Source(s, []string{"P", "Q"}, []api.Table{people(), others()})
	if e != api.OK {
		return "error " + string(rune('0'+e))
	}
	if (o.Kind == api.Tired) != (tables == nil) {
		t.Error("tables", o.Kind)
	}
	switch o.Kind {
	case api.Died:
		return strings.Join(append(o.Lines, "died "+string(rune('0'+o.Why))), "/")
	case api.Tired:
		return "tired"
	}
	if o.Value != "NIL" {
		o.Lines = append(o.Lines, "= "+o.Value)
	}
	return strings.Join(o.Lines, "/")
}

// program makes lines of what stands between bars.
func program(s string) string {
	return strings.ReplaceAll(s, " / ", "\n")
}

func check(t *testing.T, cases [][2]string) {
	t.Helper()
	for _, c := range cases {
		if got := outcome(t, program(c[0])); got != c[1] {
			t.Errorf("%s: %q, want %q", c[0], got, c[1])
		}
	}
}

func TestExamples(t *testing.T) {
	check(t, [][2]string{
		{"x = 1 / b = {|y| x + y} / x = 2 / ? eval(b, 1)", "3"},
		{`m = "x + 1" / x = 2 / ? &m`, "3"},
		{"x = 1 / do p with x / ? x / procedure p(y) / y = 5", "5"},
	})
}

func TestVariables(t *testing.T) {
	check(t, [][2]string{
		{"? x", "died 4"},
		{"local x := 1 / x = 2 / ? x / do p / procedure p / ? x", "2/died 4"},
		{"x = 1 / do p / ? x / procedure p / ? x / x = 2", "1/2"},
		{"private x := 1 / do p / ? x / procedure p / private x := 2 / do q / procedure q / ? x / x = 3", "2/1"},
		{"do p / ? x / procedure p / x = 3", "died 4"},
		{"do p / ? x / procedure p / public x := 3", "3"},
		{"public x := 1 / private x := 2 / do p / ? x / procedure p / public x := 1 % 0 / ? x", "2/2"},
		{"do p / do p / do p / procedure p / static n := 1 + 1 / ? n / n = n + 1", "2/3/4"},
		{"static n := 1 / do p / procedure p / static n := 5 / ? n", "5"},
		{"do p / do p / procedure p / ? n / static n := 5", "died 4"},
		{"local a := 1, b := a + 1 / ? a, b", "1 2"},
		{"local a := 1, a := a + 1 / ? a", "2"},
		{"private a, a := 2 / ? a", "2"},
		{"local a / ? a, type(a)", "NIL U"},
		{"x = 1 / local x := x + 1 / ? x", "2"},
		{"use p / name = 5 / ? name / use / ? name", "5/5"},
		{"use p / ? name / local name := 1 / ? name", "bob/1"},
		{"static s := 1 / private s := 2 / ? s", "1"},
		{"public a := 1 / a = 2 / do p / procedure p / ? a", "2"},
	})
}

func TestArguments(t *testing.T) {
	check(t, [][2]string{
		{"x = 1 / ? f(x) + f(@x) / ? x / function f(y) / y = y + 1 / return y", "4/2"},
		{"x = 1 / do p with x + 0 / ? x / do p with @x / ? x / procedure p(y) / y = 9", "1/9"},
		{"? f(1) / function f(a, b) / ? a, b / return", "1 NIL/NIL"},
		{"? f(1, 1 % 0) / function f(a) / return a", "died 5"},
		{"? f(x, y) / function f(a)", "died 5"},
		{"do p with x, y / procedure p(a)", "died 5"},
		{"do p with x / procedure p(a)", "died 4"},
		{"? f(@x) / function f(a)", "died 4"},
		{"use p / ? f(@age) / function f(a)", "died 8"},
		{"use p / do f with age / ? age / procedure f(a) / a = 1", "10"},
		{"do nothing", "died 4"},
		{"do len with 'a'", "died 4"},
		{"? len(@x)", "died 8"},
		{"x = @y", "died 8"},
		{"? main() / return 5", "tired"},
		{"? len(1) / function len(a) / return a + 1", "2"},
		{"? if(1, 2) / function if(a, b) / return b", "2"},
		{"do p with 1 / procedure p(a, a) / ? a", "NIL"},
	})
}

func TestArraysAndBlocks(t *testing.T) {
	check(t, [][2]string{
		{"a = {1, 'x', {2}} / ? a, len(a), a[3][1], type(a), a[2]", "ARRAY 3 3 2 A x"},
		{"a = {1} / b = a / b[1] = 5 / ? a[1], a == b, a = {1}, a <> b", "5 .T. .F. .F."},
		{"a = array(2) / ? a[1], aadd(a, 7), len(a), empty(a), empty(array(0))", "NIL 7 3 .F. .T."},
		{"a = {1} / ? a[0]", "died 3"}, {"a = {1} / ? a[2]", "died 3"}, {"a = {1} / ? a['x']", "died 1"}, {"a = {1} / ? a[.null.]", "died 1"}, {"a = 1 / ? a[1]", "died 1"}, {"a = {1} / a[2] = 1 % 0", "died 2"}, {"a = {1} / a[x] = 1", "died 4"}, {"? array(-1)", "died 3"}, {"? array(201)", "died 3"}, {"? len(array(200))", "200"}, {"? array('a')", "died 1"}, {"? array()", "died 5"},
		{"a = array(200) / ? aadd(a, 1)", "died 3"}, {"? aadd(1, 2)", "died 1"},
		{"? {1} + 1", "died 1"}, {"? {1} + .null.", "NIL"}, {"? .null. = {1}", "NIL"}, {"? {1} = 1", "died 1"}, {"? {1} = {|| 1}", "died 1"}, {"? {1} < {1}", "died 1"}, {"? -{1}", "died 1"}, {"? .not. {1}", "died 1"}, {"? .null. .and. {1}", "died 1"}, {"? .f. .and. {1}", ".F."}, {"? {1} .or. .t.", "died 1"}, {"? .t. .or. {1}", ".T."},
		{"? upper({1})", "died 1"}, {"? left({1}, .null.)", "NIL"}, {"? isnull({1}), nvl({1}, 2), nvl(.null., {1, 2}), type({|| 1})", ".F. ARRAY 1 ARRAY 2 B"}, {"? if(.t., {1}, 2)", "ARRAY 1"}, {"? if({1}, 1, 2)", "died 1"}, {"? len({|| 1})", "died 1"}, {"? inlist(1, {1})", "died 1"}, {"? between({1}, .null., 1)", "died 1"}, {"? min({1}, .null.)", "NIL"}, {"? empty({|| 1})", ".F."},
		{"b = {|x, y| x * 10 + nvl(y, 5)} / ? eval(b, 1), eval(b, 1, 2), b, b == b, b = {|| 1}", "15 12 BLOCK .T. .F."},
		{"? eval({|x| x}, 1, 2)", "died 5"}, {"? eval({|x| x}, 1, y)", "died 4"}, {"? eval(1)", "died 1"}, {"? eval()", "died 5"}, {"? eval(1, 2 % 0)", "died 2"},
		{"b = f(5) / ? eval(b, 1) / function f(x) / local y := 100 / return {|z| x + y + z}", "106"},
		{"b = {|x| {|y| x * 10 + y}} / c = eval(b, 3) / x = 9 / ? eval(c, 4)", "34"},
		{"x = 1 / b = {|x| eval({|y| x + y}, 1)} / ? eval(b, 5)", "6"},
		{"? f() / function f / local a := 1 / local b := {|| a} / local a := 2 / return eval(b)", "2"},
		{"b = g() / ? eval(b) / ? eval(b) / ? g2() / function g / static n := 7 / return {|| n} / function g2 / return 1", "7/7/1"},
		{"a = {1, 2} / aadd(a, a) / ? a[3] == a, len(a[3])", ".T. 3"},
		{"? {|x| y}", "BLOCK"},
	})
}

func TestMacros(t *testing.T) {
	check(t, [][2]string{
		{"x = 5 / m = 'x' / ? &m, &m. + 1, &('x' + '*2'), &(m)", "5 6 10 5"},
		{"m = 5 / ? &m", "died 1"}, {"m = 'x +' / ? &m", "died 6"}, {"? &m", "died 4"}, {"m = '&m' / ? &m", "died 6"}, {"m = 'f()' / ? &m / function f / return &m", "died 6"},
		{"m = 'y' / &m = 3 / ? y / &('z' + '1') = 4 / ? z1", "3/4"}, {"m = 'y + 1' / &m = 3", "died 6"}, {"m = 5 / &m = 3", "died 1"}, {"m = '' / &m = 3", "died 6"},
		{"b = {|x| &m} / m = 'x * 2' / ? eval(b, 4)", "8"},
		{"m = '{|x| x + 1}' / ? eval(&m, 4)", "5"},
		{"m = '@x' / x = 1 / ? f(&m) / function f(a) / return a", "died 8"},
		{"use p / m = 'age' / ? &m, &name", "died 4"},
	})
}

func TestStatements(t *testing.T) {
	check(t, [][2]string{
		{"?", ""}, {"? 1, 'a', .t., {}, .null., {^2024-01-02}", "1 a .T.     -  -   NIL 2024-01-02"},
		{"if .f. / ? 1 / elseif .null. / ? 2 / elseif .t. / ? 3 / else / ? 4 / endif", "3"}, {"if .null. / else / ? 4 / endif", "4"}, {"if 1 / endif", "died 1"}, {"if {1} / endif", "died 1"},
		{"i = 0 / do while i < 5 / i = i + 1 / if i = 2 / loop / endif / if i = 4 / exit / endif / ? i / enddo / ? i", "1/3/4"}, {"do while 'a' / enddo", "died 1"},
		{"for i = 1 to 3 / ? i / next / ? i", "1/2/3/4"}, {"for i = 3 to 1 step -2 / ? i / next / ? i", "3/1/-1"}, {"for i = 2 to 1 / ? i / next / ? i", "2"}, {"for i = 1 to 2 step 0 / next", "died 3"}, {"for i = 'a' to 1 % 0 / next", "died 2"}, {"for i = 1 to 2 / i = 'a' / next", "died 1"}, {"for i = 1 to .null. / next", "died 1"},
		{"for i = 1 to 9 / i = i + 3 / ? i / next", "4/8/12"}, {"for i = 999999999999999 to 999999999999999 step 999999999999999 / next", "died 3"}, {"n = 2 / for i = 1 to n / n = 9 / ? i / next", "1/2"},
		{"for i = 1 to 3 / for j = 1 to 3 / if j = 2 / exit / endif / if i = 2 / loop / endif / ? i, j / next / next", "1 1/3 1"},
		{"loop", "died 8"}, {"exit", "died 8"}, {"for i = 1 to 2 / do p / next / procedure p / loop", "died 8"}, {"return 5 / ? 1", "= 5"}, {"return {1, 2}", "= ARRAY 2"}, {"return", ""},
		{"f(1) / function f(a) / ? a / return 5", "1"}, {"? 1 % 0", "died 2"}, {"x = 1 / ? x / ? y", "1/died 4"},
	})
}

func TestSequences(t *testing.T) {
	check(t, [][2]string{
		{"begin sequence / ? 1 % 0 / recover using e / ? e / end / ? 'on'", "2/on"}, {"begin sequence / break 7 / ? 1 / recover using e / ? e / end", "7"}, {"begin sequence / break / recover using e / ? e / end", "NIL"}, {"begin sequence / break / end / ? 1", "1"}, {"begin sequence / do p / recover using e / ? e / end / procedure p / break {1}", "ARRAY 1"},
		{"break", "died 8"}, {"break x", "died 4"}, {"begin sequence / recover / break / end", ""}, {"begin sequence / break 1 / recover / break / end", "died 8"}, {"begin sequence / begin sequence / break 1 / recover using e / break e + 1 / end / recover using e / ? e / end", "2"},
		{"for i = 1 to 3 / begin sequence / if i = 2 / loop / endif / ? i / end / next", "1/3"}, {"for i = 1 to 3 / begin sequence / exit / end / next / ? i", "1"}, {"? f() / function f / begin sequence / return 5 / end / return 6", "5"}, {"begin sequence / loop / recover using e / ? e / end", "8"},
		{"begin sequence / for i = 1 to 2 / ? x / next / recover using e / ? e / end / loop", "4/died 8"}, {"begin sequence / do p / recover / ? x / end / procedure p / x = 1 / break", "died 4"}, {"begin sequence / do p / end / do p / procedure p / break", "died 8"},
		{"begin sequence / ? f() / recover using e / ? e / end / function f / return f()", "tired"},
	})
}

func TestTired(t *testing.T) {
	check(t, [][2]string{
		{"do while .t. / enddo", "tired"}, {"for i = 1 to 300 / ? i / next", "tired"}, {"? f(19) / function f(n) / if n = 0 / return 0 / endif / return f(n - 1) + 1", "tired"}, {"? f(18) / function f(n) / if n = 0 / return 0 / endif / return f(n - 1) + 1", "18"},
		{"b = {|n| if(n = 0, 0, eval(b, n - 1) + 1)} / ? eval(b, 18)", "18"}, {"b = {|n| if(n = 0, 0, eval(b, n - 1) + 1)} / ? eval(b, 19)", "tired"},
		{"for i = 1 to 300 / x = i / next / ? x", "300"},
	})
	for n, want := range map[string]int{"200": 200, "201": 0} {
		if got := outcome(t, program("for i = 1 to "+n+" / ? 'x' / next")); strings.Count(got, "x") != want {
			t.Error(n, "lines:", got)
		}
	}
}

// A line is a text: it has at most 2048 bytes.
func TestLongLines(t *testing.T) {
	a := func(n int) string { return strings.Repeat("a", n) }
	check(t, [][2]string{
		{"s = replicate('a', 2048) / ? s / ? s", a(2048) + "/" + a(2048)}, {"s = replicate('a', 2048) / ? 1 / ? s, ''", "1/died 3"}, {"s = replicate('a', 2044) / ? s, .null. / ? s + '', {}", a(2044) + " NIL/died 3"}, {"s = replicate('a', 2045) / ? s, .null.", "died 3"},
		{"s = replicate('a', 1023) / ? s, s, '' / ? s, s, '', ''", a(1023) + " " + a(1023) + " /died 3"}, {"s = replicate('a', 2047) / begin sequence / ? 1 / ? s, 1 / ? 2 / recover using e / ? e / end / ? s, ''", "1/3/" + a(2047) + " "},
		{"s = replicate('a', 2048) / ? s, f() / function f / ? 'f' / return 1", "f/died 3"}, {"s = replicate('a', 2048) / ? s, 1 % 0", "died 2"}, {"s = replicate('a', 2040) / ? s, {|| 1}, 3 / ? s, array(12)", a(2040) + " BLOCK 3/died 3"},
	})
	p, _, _ := tree.Parse(program("? 'main' / procedure p(k, l) / ? k, l"))
	for n, want := range map[int]api.Outcome{2044: {Lines: []string{"main", a(2044) + " NIL"}, Value: "NIL"}, 2045: {Kind: api.Died, Why: api.DieRange, Lines: []string{"main"}}, 2048: {Kind: api.Died, Why: api.DieRange, Lines: []string{"main"}}} {
		if o, _, e := run.Call(p, "P", []api.Value{text(a(n))}, nil, nil); !run.Same(o, want) || e != api.OK {
			t.Errorf("Call with %d bytes: %d %d %d lines, error %d", n, o.Kind, o.Why, len(o.Lines), e)
		}
	}
}

func TestWorkAreas(t *testing.T) {
	check(t, [][2]string{
		{"? eof(), bof(), found(), reccount(), alias(), recno(), deleted()", ".T. .T. .F. 0  0 .F."},
		{"use p / ? eof(), bof(), found(), reccount(), alias(), recno(), deleted(), name", ".F. .F. .F. 4 P 1 .F. bob"},
		{"use x", "died 7"}, {"use", "died 7"}, {"select p", "died 7"}, {"skip", "died 7"}, {"go 1 % 0", "died 7"}, {"pack", "died 7"}, {"set exact on / ? 'ab' = 'a', 'ab' = 'ab '", ".F. .T."}, {"? 'ab' = 'a' / set exact on / set exact off / ? 'ab' = 'a'", ".T./.T."},
		{"use p alias a / use q / ? alias(), age, a->age, a->(age + recno()) / select a / ? alias()", "Q 10 10 11/A"}, {"use p / ? z->age", "died 4"}, {"use p / use p alias q / skip 2 / select p / ? q->age, q->(deleted()), age", "30 .T. 10"},
		{"use p / skip 1 / use q / use p / ? recno()", "1"}, {"use p / use q / use / ? alias() / select p / ? alias()", "/P"},
		{"use p / age = 5 / ? p->age, age", "5 5"}, {"use p / p->age = 7 / ? age", "7"}, {"use p / p->age = 'x'", "died 7"}, {"use p / p->x = 1", "died 7"}, {"z->x = 1", "died 7"}, {"use p / p->age = {1}", "died 1"},
		{"use p / go 3 / ? recno(), deleted() / go top / ? recno() / go bottom / ? recno() / skip / ? eof(), recno(), age / skip -9 / ? bof()", "3 .T./1/4/.T. 5 0/.T."}, {"use p / go 9", "died 7"}, {"use p / go 'a'", "died 1"}, {"use p / skip .null.", "died 1"}, {"use p / go {1}", "died 1"},
		{"use p / set deleted on / go 2 / skip / ? recno()", "4"}, {"use p / append blank / ? recno(), age / delete / pack / ? reccount()", "5 0/3"}, {"use p / zap / ? reccount(), eof()", "0 .T."},
		{"use p / ? dbvalue('AGE') / ? dbvalue('age')", "10/died 4"}, {"? dbvalue('X')", "died 4"}, {"use p / ? dbvalue(1)", "died 1"},
		{"use p / ? f->age", "died 4"}, {"use p alias a / ? a->(f()) / ? alias() / function f / use q / return alias()", "Q/A"}, {"use p alias a / use q / ? a->(f()), alias() / function f / use / return 1", "1 Q"}, {"use p alias a / ? a->(f()) / ? alias() / function f / use / return 1", "1/"},
		{"use p alias a / use q / begin sequence / ? a->(1 % 0) / end / ? alias()", "Q"},
		{"use p alias _ / use q alias _0 / ? alias(), _->name, _->(age + _0->age) / select _ / count to n for _0->x < _->age / ? n", "_0 bob 20/4"},
		{"use p / ? upper(chr(233)) = chr(201) / use / ? upper(chr(233)) = chr(201)", ".T./.F."}, {"use p / local age := 3 / ? age, p->age", "3 3"},
	})
}

func TestCommands(t *testing.T) {
	check(t, [][2]string{
		{"use p / index on name tag n / go top / ? name / seek 'b' / ? found(), name / seek 'z' / ? found(), eof()", "al/.T. bob/.F. .T."}, {"use p / seek 'a'", "died 7"}, {"use p / index on age tag a / seek {1}", "died 1"}, {"use p / index on age tag a / seek 20 / ? found() / seek x", ".T./died 4"},
		{"use p / index on age tag a for age > 10 descending / go top / ? age / set order to / go top / ? age / set order to a / go top / ? age", "40/10/40"}, {"use p / index on left(name, 1) tag u unique / count to n / ? n", "3"}, {"use p / index on left(name, 1) tag u candidate", "died 7"}, {"use p / set order to x", "died 7"}, {"use p / index on x tag t", "died 7"}, {"use p / index on age tag a / index on age tag a", "died 7"},
		{"use p / locate for age > 15 / ? found(), recno() / continue / ? recno() / continue / continue / ? found(), eof()", ".T. 2/3/.F. .T."}, {"use p / continue", "died 7"}, {"use p / locate / continue / ? recno()", "2"}, {"use p / locate for age > 90 / ? found(), eof()", ".F. .T."}, {"use p / locate for x", "died 7"}, {"use p / locate for age > 15 / use p / continue", "died 7"}, {"use p / locate for age = 10 / use q alias r / ? found() / select p / ? found()", ".F./.T."},
		{"use p / n = 15 / locate for age > n / n = 35 / continue / ? recno()", "3"},
		{"use p / replace age with age + 1, note with recno() all / sum age to s / sum note to m / ? s, m", "104 10"}, {"use p / replace age with 7 / ? age / go 2 / replace age with 1 rest for age > 20 / sum age to s / ? s", "7/29"}, {"use p / replace age with 'x'", "died 7"}, {"use p / replace age with 99999", "died 7"},
		{"use p / delete for age > 15 / set deleted on / count to n / ? n / recall all / count to n / ? n", "3/3"}, {"use p / delete all for age > 15 / set deleted on / count to n / ? n / set deleted off / recall all / count to n / ? n", "1/4"},
		{"use p / set filter to age > 15 / count to n / ? n / set filter to / count to n / ? n", "3/4"}, {"use p / lim = 15 / set filter to age > lim / lim = 99 / count to n / ? n", "3"}, {"use p / set filter to x / count to n / ? n", "0"},
		{"use q / use p / set relation to recno() into q / go 3 / ? q->x / set relation to / go 1 / ? q->x", "2/2"}, {"use p / set relation to age into z", "died 7"},
		{"use p / count to n while age < 30 / ? n, recno()", "2 3"}, {"use p / go 2 / sum age + 1 to n next 2 / ? n", "52"}, {"use p / n = 3 / delete record n / ? deleted() / count to k for deleted() / ? k", ".T./1"}, {"use p / sum name to n", "died 7"}, {"use p / count to n for name / ? n", "0"},
	})
}

func TestPlain(t *testing.T) {
	check(t, [][2]string{
		{"use p / m = 'age > lim' / lim = 15 / count to n for &m / ? n", "3"}, {"use p / m = 'age > &k' / k = 'lim' / lim = 15 / count to n for &m. .and. .t. / ? n", "3"}, {"use p / x = {1} / count to n for age = x", "died 1"}, {"use p / x = {|| 1} / count to n for x", "died 1"}, {"use p / x = chr(34) + chr(39) / count to n for name = x", "died 1"}, {"use p / x = chr(10) / count to n for name = x", "died 1"},
		{"use p / x = 999999999999999 + 1 / count to n for age < x", "died 1"}, {"use p / x = -15 / count to n for -age < x / ? n", "3"}, {"use p / x = .null. / count to n for isnull(x) / ? n", "4"}, {"use p / m = 5 / count to n for &m", "died 1"}, {"use p / m = '(' / count to n for &m", "died 6"}, {"use p / count to n for &m", "died 4"}, {"use p / m = '&m' / count to n for &m", "died 6"},
		{"use q / use p / age = 15 / x = 77 / count to n for q->x = 0 .and. age > 15 / ? n", "3"}, {"use p / count to n for z->age = 1", "died 7"}, {"use p / y = 1 / replace age with y + &m all for &k", "died 4"}, {"use p / x = {1} / replace age with x all for &k", "died 1"},
		{"use p / count to n for f() / function f / return .t.", "died 7"}, {"use p / d = {^2024-01-01} / count to n for d > {} / ? n", "4"}, {"use p / x = 2 / index on age * x tag t / x = 3 / go bottom / ? age / set filter to age = 5 * x * 2 / count to n / ? n", "40/1"},
		{"use p / k = 'age' / replace age with &k + 1 all / ? n", "died 4"},
	})
}

// P21.1
func TestRunErrors(t *testing.T) {
	p, _, _ := tree.Parse("? 1")
	bad := []api.Proc{{Name: "X"}}
	for i, c := range []struct {
		p      []api.Proc
		names  []string
		tables []api.Table
		e      api.Errno
	}{{bad, []string{"a"}, nil, api.ErrArg}, {p, []string{"P"}, nil, api.ErrFit}, {p, []string{"p"}, []api.Table{{}}, api.ErrArg}, {p, []string{"P", "P"}, []api.Table{{}, {}}, api.ErrTwice}, {p, nil, nil, api.OK}} {
		o, tables, e := run.Run(c.p, c.names, c.tables)
		_, e2 := run.Publics(c.p, c.names, c.tables)
		if e != c.e || e2 != c.e || e != api.OK && (o.Lines != nil || tables != nil) {
			t.Errorf("Run %d: %d %d", i, e, e2)
		}
	}
	for s, want := range map[string]api.Errno{"? 1 +": api.ErrSyntax, "~": api.ErrSyntax, "procedure main": api.ErrTwice, strings.Repeat(" ", 4001): api.ErrLarge} {
		if _, _, e := run.Source(s, []string{"a"}, nil); e != want {
			t.Errorf("Source %.9q: %d", s, e)
		}
	}
	for i, c := range []struct {
		name string
		args []api.Value
		e    api.Errno
	}{{"X", []api.Value{{N: 1}}, api.ErrArg}, {"X", nil, api.ErrNone}, {"", nil, api.ErrNone}, {"MAIN", nil, api.ErrFit}} {
		if _, _, e := run.Call(p, c.name, c.args, []string{"P"}, nil); e != c.e {
			t.Errorf("Call %d: %d", i, e)
		}
	}
}

func TestCall(t *testing.T) {
	p, _, _ := tree.Parse(program("public a := 1 / private b := 2 / use p / ? 'main' / procedure q(x, y) / ? x, y, a, alias() / return x + a / procedure r / ? b / procedure s(x) / static n := 1 / return n"))
	names, tables := []string{"P"}, []api.Table{people()}
	for _, c := range []struct {
		name string
		args []api.Value
		want api.Outcome
	}{
		{"Q", []api.Value{num(5)}, api.Outcome{Lines: []string{"main", "5 NIL 1 P"}, Value: "6"}}, {"Q", []api.Value{{}, {}, {}}, api.Outcome{Kind: api.Died, Why: api.DieArgs, Lines: []string{"main"}}}, {"R", nil, api.Outcome{Kind: api.Died, Why: api.DieName, Lines: []string{"main"}}}, {"S", nil, api.Outcome{Lines: []string{"main"}, Value: "1"}}, {"MAIN", nil, api.Outcome{Lines: []string{"main", "main"}, Value: "NIL"}},
	} {
		if o, tables, e := run.Call(p, c.name, c.args, names, tables); !run.Same(o, c.want) || len(tables) != 1 || e != api.OK {
			t.Errorf("Call %s: %v %d", c.name, o, e)
		}
	}
	dead, _, _ := tree.Parse(program("? 1 % 0 / procedure q / ? 5"))
	if o, _, _ := run.Call(dead, "Q", nil, nil, nil); o.Kind != api.Died || len(o.Lines) != 0 {
		t.Error("MAIN is not done", o)
	}
}

func TestPublicsAndTables(t *testing.T) {
	p, _, _ := tree.Parse(program("public b := 'x', a := {1} / private c := 2 / do p / ? y / procedure p / public d / a = 5"))
	if l, e := run.Publics(p, nil, nil); !slices.Equal(l, []string{"A=5", "B=x", "D=NIL"}) || e != api.OK {
		t.Error(l, e)
	}
	tired, _, _ := tree.Parse(program("public a / do while .t. / enddo"))
	if l, e := run.Publics(tired, nil, nil); l != nil || e != api.ErrLarge {
		t.Error(l, e)
	}
	in := []api.Table{others(), people()}
	q, _, _ := tree.Parse(program("use p / replace age with 1 all / ? 1 % 0"))
	o, tables, e := run.Run(q, []string{"Q", "P"}, in)
	if o.Kind != api.Died || e != api.OK || tables[1].Recs[3].V[1] != num(1) || in[1].Recs[3].V[1] != num(40) {
		t.Error(o, e)
	}
	if d, _ := table.Differ(tables[0], in[0]); len(d) > 0 {
		t.Error("the order of names")
	}
}

func TestSameAndAlike(t *testing.T) {
	a, b, tired := api.Outcome{Lines: []string{"x"}}, api.Outcome{Lines: []string{"y"}}, api.Outcome{Kind: api.Tired}
	if !run.Same(a, a) || run.Same(a, b) || run.Same(a, tired) || !run.Same(api.Outcome{Lines: []string{}}, api.Outcome{}) || run.Same(a, api.Outcome{Lines: []string{"x"}, Value: "v"}) || run.Same(api.Outcome{Kind: 1, Why: 1}, api.Outcome{Kind: 1, Why: 2}) {
		t.Error("Same")
	}
	if !run.Alike(a, a) || run.Alike(a, b) || !run.Alike(a, tired) || !run.Alike(tired, b) {
		t.Error("Alike")
	}
}
