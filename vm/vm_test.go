package vm_test

import (
	"fmt"
	"math/rand"
	"slices"
	"strings"
	"testing"

	"cabinetry/api"
	"cabinetry/code"
	"cabinetry/run"
	"cabinetry/tree"
	"cabinetry/vm"
)

func num(n int) api.Value     { return api.Value{Kind: api.Num, N: n} }
func text(s string) api.Value { return api.Value{Kind: api.Text, S: s} }

func people() api.Table {
	t := api.Table{Page: 1, Fields: []api.Field{{Name: "NAME", Kind: api.Text, Width: 6}, {Name: "AGE", Kind: api.Num, Width: 4}, {Name: "NOTE", Kind: api.Num, Width: 4, Null: true}}}
	for i, s := range []string{"bob", "al", "cy", "bobby"} {
		t.Recs = append(t.Recs, api.Record{Gone: i == 2, V: []api.Value{text(s), num(10 * (i + 1)), {}}})
	}
	return t
}

func others() api.Table {
	t := api.Table{Fields: []api.Field{{Name: "AGE", Kind: api.Num, Width: 4}, {Name: "X", Kind: api.Num, Width: 4}}}
	for i := range 3 {
		t.Recs = append(t.Recs, api.Record{V: []api.Value{num(10 * (i + 1)), num(i)}})
	}
	return t
}

var names = []string{"P", "Q"}

func tables() []api.Table { return []api.Table{people(), others()} }

// program makes lines of what stands between bars.
func program(s string) string { return strings.ReplaceAll(s, " / ", "\n") }

// same runs a program both ways.
func same(t *testing.T, s string) api.Outcome {
	t.Helper()
	p, _, e := tree.Parse(s)
	if e != api.OK {
		t.Fatalf("%q: %d", s, e)
	}
	o, tabs, e := run.Run(p, names, tables())
	v, vtabs, ve := vm.Program(p, names, tables())
	if e != ve || !run.Alike(o, v) {
		t.Fatalf("%s\n%v %d\n%v %d", s, o, e, v, ve)
	}
	if o.Kind == api.Tired || v.Kind == api.Tired {
		return o
	}
	if fmt.Sprint(tabs) != fmt.Sprint(vtabs) {
		t.Fatalf("%s\n%v\n%v", s, tabs, vtabs)
	}
	l, _ := code.Compile(p)
	a, e1 := run.Publics(p, names, tables())
	b, e2 := vm.Publics(l, names, tables())
	if e1 != e2 || !slices.Equal(a, b) {
		t.Fatalf("%s\n%v %v", s, a, b)
	}
	return v
}

// P23.1
func TestExamples(t *testing.T) {
	for s, want := range map[string]string{
		"? 1 + 2": "3", "x = 1 / b = {|y| x + y} / x = 2 / ? eval(b, 1)": "3", `m = "x + 1" / x = 2 / ? &m`: "3", "x = 1 / do p with x / ? x / procedure p(y) / y = 5": "5",
	} {
		o, tabs, e := vm.Source(program(s), nil, nil)
		if e != api.OK || o.Kind != api.Done || strings.Join(o.Lines, "/") != want || o.Value != "NIL" || len(tabs) != 0 {
			t.Errorf("%s: %v %d", s, o, e)
		}
	}
}

var samples = []string{
	"private x := 1 / do p / ? x / procedure p / private x := 2 / do q / procedure q / ? x / x = 3",
	"do p / do p / procedure p / static n := 1 + 1, m / ? n, m / n = n + 1 / m = n", "public a := 1, a := 2 / ? a / do p / procedure p / public b := x",
	"x = 1 / ? f(x) + f(@x) / ? x / function f(y) / y = y + 1 / return y", "? f(x, y) / function f(a)", "do p with x / procedure p(a)", "use p / do f with age / ? age / procedure f(a) / a = 1", "use p / ? f(@age) / function f(a)", "? len(@x)", "x = @y", "? if(1, 2) / function if(a, b) / return b", "? if(1, 2)", "? if(.t., 1, x), if(.null., x, 2)",
	"a = {1, 'x', {2}} / ? a, len(a), a[3][1] / a[3] = 5 / ? a[3]", "a = {1} / b = a / b[1] = 5 / ? a[1] / b[2] = x", "b = {|x| {|y| x * 10 + y}} / c = eval(b, 3) / ? eval(c, 4), eval(c), eval(b, 1, 2)", "b = f(5) / ? eval(b, 1) / function f(x) / local y := 100 / return {|z| x + y + z}", "? eval({|a, b| nvl(b, a)}, 4) / ? {1} .and. x", "? .f. .and. x, .t. .or. x, .null. .and. .t. / ? .null. .or. {1}",
	"m = 'y' / &m = 3 / ? y / &('z' + '1') = 4 / ? z1 / m = '&m' / ? &m", "m = '{|x| x + f(x)}' / ? eval(&m, 4) / function f(a) / return a * 2", "m = 'f(@x)' / x = 1 / ? &m, x / function f(a) / a = 7 / return 1",
	"i = 0 / do while i < 5 / i = i + 1 / if i = 2 / loop / endif / if i = 4 / exit / endif / ? i / enddo / ? i", "for i = 3 to 1 step -1 / begin sequence / if i = 2 / loop / endif / ? i / end / next / ? i", "for i = 1 to 3 / begin sequence / begin sequence / exit / end / end / next / ? i", "for i = 1 to 2 step 0 / next", "for i = 'a' to x / next", "loop", "for i = 1 to 2 / i = {1} / next", "for i = 1 to 2 / do while .t. / exit / enddo / ? i / next",
	"begin sequence / ? 1 % 0 / recover using e / ? e / break 5 / end", "begin sequence / do p / recover using e / ? e / end / procedure p / for i = 1 to 2 / break i / next", "begin sequence / begin sequence / break 1 / recover using e / break e + 1 / end / recover using e / ? e / end / break", "? f() / function f / begin sequence / return 5 / end / return 6", "begin sequence / return 4 / end", "begin sequence / ? f() / recover using e / ? e / end / function f / return f()",
	"use p alias a / use q / begin sequence / ? a->(f()) / end / ? alias() / ? a->(b->x) / function f / ? alias() / return 1 % 0", "use p alias _ / use q alias _0 / ? _->(age + _0->age) / _->age = 7 / ? _->age", "use p alias a / ? a->(f()) / ? alias() / function f / use / return 1", "use p / p->age = 7 / ? age / p->x = 1", "z->x = 1", "use p / go 3 / ? recno() / go top / skip / ? name / skip -9 / ? bof() / go bottom / ? age / go 'a'", "go 1 % 0", "skip", "seek x", "use p / skip .null.",
	"use p / index on name tag n / seek 'b' / ? found(), name / seek {1}", "use p / m = 'age > lim' / lim = 15 / count to n for &m / ? n / set filter to &m / replace note with recno() + lim all / sum note to s / ? s / pack / ? reccount() / append blank / ? recno()", "use p / locate for age > 15 / ? recno() / continue / ? recno() / delete / set deleted on / continue / ? found(), eof() / zap / ? reccount()", "use q / use p / set relation to recno() into q / go 3 / ? q->x / set relation to / set order to / set exact on / ? 'ab' = 'a'", "set filter to x", "use nothing",
	"s = replicate('a', 2044) / ? s, .null. / ? s + 'b', .null.", "s = replicate('a', 2047) / begin sequence / ? 1 / ? s, 1 / ? 2 / recover using e / ? e / end / ? s, ''",
	"return {1, 2}", "return 5 / ? 1", "? {|| 1}, array(3), .t., {}", "f(1) / function f(a) / ? a", "do while .t. / enddo",
}

func TestSamples(t *testing.T) {
	for _, s := range samples {
		same(t, program(s))
	}
}

// writer makes programs by chance.
type writer struct {
	r     *rand.Rand
	depth int
}

func (w *writer) pick(l ...string) string { return l[w.r.Intn(len(l))] }

func (w *writer) expr(depth int) string {
	if depth <= 0 {
		return w.pick("1", "2", "0", "'a'", "'x'", ".t.", ".f.", ".null.", "x", "y", "z", "n", "age", "name", "m", "b", "{}", "3")
	}
	e := func() string { return w.expr(depth - 1) }
	switch w.r.Intn(20) {
	case 0, 1, 2:
		return "(" + e() + w.pick(" + ", " - ", " * ", " / ", " % ", " = ", " == ", " <> ", " < ", " >= ", " $ ") + e() + ")"
	case 3:
		return "(" + e() + w.pick(" .and. ", " .or. ") + e() + ")"
	case 4:
		return "(" + w.pick("-", ".not. ") + "(" + e() + "))"
	case 5:
		return "{" + e() + ", " + e() + "}"
	case 6:
		return w.pick("a", "x", "b") + "[" + e() + "]"
	case 7:
		return "{|" + w.pick("", "x", "x, y", "z") + "| " + e() + "}"
	case 8:
		return "eval(" + e() + ", " + e() + ")"
	case 9:
		return w.pick("f", "g", "h") + "(" + w.pick("", e(), e()+", "+e(), "@x", "@y, "+e()) + ")"
	case 10:
		return w.pick("&m", "&('x + 1')", "&(m)", "&n.", "&('{|x| x}')")
	case 11:
		return w.pick("p", "q", "r") + "->" + w.pick("age", "x", "(recno())", "("+e()+")")
	case 12:
		return "if(" + e() + ", " + e() + ", " + e() + ")"
	case 13:
		return w.pick("len", "empty", "isnull", "type", "upper", "abs", "array") + "(" + e() + ")"
	case 14:
		return w.pick("nvl", "min", "aadd", "left", "inlist") + "(" + e() + ", " + e() + ")"
	case 15:
		return w.pick("recno()", "eof()", "found()", "reccount()", "alias()", "deleted()", "bof()", "dbvalue('AGE')")
	}
	return w.expr(0)
}

func (w *writer) name() string { return w.pick("x", "y", "z", "n", "m", "a", "b") }

func (w *writer) scope() string {
	s := w.pick("", "", " all", " next 2", " rest", " record "+w.expr(0))
	if w.r.Intn(3) == 0 {
		s += " for " + w.pick("age > 15", "age > n", "&m", w.expr(1))
	}
	if w.r.Intn(5) == 0 {
		s += " while " + w.pick("age < 35", w.expr(1))
	}
	return s
}

func (w *writer) block(n int) string {
	s := ""
	for range w.r.Intn(n + 1) {
		s += w.stmt()
	}
	return s
}

func (w *writer) stmt() string {
	w.depth++
	defer func() { w.depth-- }()
	k := w.r.Intn(30)
	if w.depth > 3 && k < 6 {
		k = 6 + w.r.Intn(24)
	}
	switch k {
	case 0:
		return "if " + w.expr(1) + "\n" + w.block(2) + w.pick("", "elseif "+w.expr(1)+"\n"+w.block(1)) + w.pick("", "else\n"+w.block(2)) + "endif\n"
	case 1:
		v := w.name()
		return v + " = 0\ndo while " + v + " < 3\n" + v + " = " + v + " + 1\n" + w.block(2) + "enddo\n"
	case 2:
		return "for " + w.name() + " = " + w.pick("1", "3", w.expr(1)) + " to " + w.pick("3", "1", w.expr(1)) + w.pick("", " step "+w.pick("1", "-1", "2", w.expr(1))) + "\n" + w.block(3) + "next\n"
	case 3, 4:
		return "begin sequence\n" + w.block(3) + w.pick("", "recover\n"+w.block(2), "recover using "+w.name()+"\n"+w.block(2)) + "end\n"
	case 5:
		return "do case\ncase " + w.expr(1) + "\n" + w.block(2) + "otherwise\n" + w.block(1) + "endcase\n"
	case 6, 7, 8, 9:
		return w.name() + " = " + w.expr(2) + "\n"
	case 10, 11, 12:
		return "? " + w.expr(2) + w.pick("", ", "+w.expr(1)) + "\n"
	case 13:
		return w.pick("local ", "private ", "public ", "static ") + w.name() + w.pick("", " := "+w.expr(1)) + "\n"
	case 14:
		return "do " + w.pick("f", "g", "h") + w.pick("", " with x", " with "+w.expr(1), " with x, "+w.expr(1)) + "\n"
	case 15:
		return w.pick("loop", "exit", "return", "return "+w.expr(1), "break", "break "+w.expr(1)) + "\n"
	case 16:
		return w.pick("a[", "x[") + w.expr(1) + "] = " + w.expr(1) + "\n"
	case 17:
		return w.pick("p->age = ", "q->x = ", "&m = ", "&('y') = ") + w.expr(1) + "\n"
	case 18, 19:
		return w.pick("use p", "use q", "use p alias r", "use", "select p", "select q", "select r") + "\n"
	case 20:
		return w.pick("go top", "go bottom", "skip", "skip -1", "go "+w.expr(1), "skip "+w.expr(1), "seek "+w.expr(1)) + "\n"
	case 21:
		return "locate" + w.scope() + "\n"
	case 22:
		return w.pick("continue", "append blank", "pack", "zap", "delete", "recall") + "\n"
	case 23:
		return "replace age with " + w.pick("age + 1", "n", "recno()", w.expr(1)) + w.scope() + "\n"
	case 24:
		return w.pick("delete", "recall") + w.scope() + "\n"
	case 25:
		return w.pick("count to ", "sum age to ") + w.name() + w.scope() + "\n"
	case 26:
		return "index on " + w.pick("age", "name", "age + n", "-age", w.expr(1)) + " tag " + w.pick("t", "u") + w.pick("", " for age > 15", " unique", " candidate descending") + "\n"
	case 27:
		return w.pick("set order to", "set order to t", "set filter to", "set filter to age > 15", "set filter to "+w.expr(1), "set relation to", "set relation to recno() into q", "set exact on", "set deleted on", "set deleted off") + "\n"
	}
	return w.pick("f", "g", "h") + "(" + w.expr(1) + ")\n"
}

func (w *writer) program() string {
	s := w.pick("", "use q\nuse p\n") + w.pick("", "x = 1\ny = {1, 2}\na = {3, {4}}\nm = 'x'\nn = 2\nb = {|z| z + 1}\n")
	for range 3 + w.r.Intn(10) {
		if w.r.Intn(8) == 0 {
			s += w.stmt()
		} else { // so that the program goes on
			s += "begin sequence\n" + w.stmt() + "recover using e\n? 'e', e\nend\n"
		}
	}
	s += "function f(x)\n" + w.block(4) + "return " + w.expr(1) + "\n"
	s += "procedure g(y, z)\nstatic n := 1\n" + w.block(4)
	s += "function h\n" + w.block(3)
	return s
}

// Interpreted and compiled, each program tells the same.
func TestAnyProgram(t *testing.T) {
	kinds := map[int]int{}
	for seed := range 3000 {
		w := &writer{r: rand.New(rand.NewSource(int64(seed)))}
		s := w.program()
		if _, _, e := tree.Parse(s); e == api.ErrLarge {
			continue
		}
		kinds[same(t, s).Kind]++
	}
	if kinds[api.Done] < 300 || kinds[api.Died] < 300 || kinds[api.Tired] > 2000 {
		t.Error("too few of one kind", kinds)
	}
}

func TestCall(t *testing.T) {
	p, _, _ := tree.Parse(program("public a := 1 / private b := 2 / use p / ? 'main' / procedure q(x, y) / ? x, y, a, alias() / return x + a / procedure r / ? b / function s / local t := {|| 5} / return eval(t)"))
	l, _ := code.Compile(p)
	for _, c := range []struct {
		name string
		args []api.Value
	}{{"Q", []api.Value{num(5)}}, {"Q", make([]api.Value, 3)}, {"R", nil}, {"S", nil}, {"MAIN", nil}, {"MAIN", make([]api.Value, 1)}} {
		o, tabs, e := run.Call(p, c.name, c.args, names, tables())
		v, vtabs, ve := vm.Call(l, c.name, c.args, names, tables())
		if !run.Same(o, v) || fmt.Sprint(tabs) != fmt.Sprint(vtabs) || e != ve {
			t.Errorf("Call %s: %v %v", c.name, o, v)
		}
	}
	for i, c := range []struct {
		name string
		args []api.Value
		e    api.Errno
	}{{"X", []api.Value{{N: 1}}, api.ErrArg}, {"X", nil, api.ErrNone}, {"", nil, api.ErrNone}, {"Q", nil, api.ErrFit}} {
		if _, _, e := vm.Call(l, c.name, c.args, []string{"P"}, nil); e != c.e {
			t.Errorf("Call %d: %d", i, e)
		}
	}
}

// A line is a text: it has at most 2048 bytes.
func TestLongLines(t *testing.T) {
	p, _, _ := tree.Parse(program("return / procedure p(k, l) / ? k, l"))
	l, _ := code.Compile(p)
	for n, want := range map[int]api.Outcome{2044: {Lines: []string{strings.Repeat("a", 2044) + " NIL"}, Value: "NIL"}, 2045: {Kind: api.Died, Why: api.DieRange}} {
		if o, _, e := vm.Call(l, "P", []api.Value{text(strings.Repeat("a", n))}, nil, nil); !run.Same(o, want) || e != api.OK {
			t.Errorf("Call with %d bytes: %d %d %d lines, error %d", n, o.Kind, o.Why, len(o.Lines), e)
		}
	}
}

func TestErrors(t *testing.T) {
	p, _, _ := tree.Parse("? 1")
	l, _ := code.Compile(p)
	for i, c := range []struct {
		l      []api.Unit
		names  []string
		tables []api.Table
		e      api.Errno
	}{{nil, []string{"a"}, nil, api.ErrArg}, {make([]api.Unit, 3001), nil, nil, api.ErrLarge}, {l, []string{"P"}, nil, api.ErrFit}, {l, []string{"P", "P"}, []api.Table{{}, {}}, api.ErrTwice}, {l, nil, nil, api.OK}} {
		_, _, e1 := vm.Run(c.l, c.names, c.tables)
		_, e2 := vm.Publics(c.l, c.names, c.tables)
		_, e3 := vm.Profile(c.l, c.names, c.tables)
		if e1 != c.e || e2 != c.e || e3 != c.e {
			t.Errorf("case %d: %d %d %d", i, e1, e2, e3)
		}
	}
	for s, want := range map[string]api.Errno{"? 1 +": api.ErrSyntax, "procedure main": api.ErrTwice, strings.Repeat(" ", 4001): api.ErrLarge, "? 1": api.ErrFit} {
		if _, _, e := vm.Source(s, []string{"a"}, nil); e != want {
			t.Errorf("Source %.9q: %d", s, e)
		}
	}
	if _, _, e := vm.Program([]api.Proc{{Name: "X"}}, []string{"a"}, nil); e != api.ErrArg {
		t.Error(e)
	}
}

// P23.2
func TestProfile(t *testing.T) {
	p, _, _ := tree.Parse(program("for i = 1 to 3 / b = {|x| x} / ? eval(b, 1) / next / procedure never / ? 1"))
	l, _ := code.Compile(p)
	counts, e := vm.Profile(l, nil, nil)
	if e != api.OK || len(counts) != len(l) || counts[0] == 0 || counts[1] != 0 || counts[2] == 0 {
		t.Error(counts, e)
	}
	tired, _, _ := tree.Parse(program("do while .t. / enddo"))
	l, _ = code.Compile(tired)
	if _, e := vm.Profile(l, nil, nil); e != api.ErrLarge {
		t.Error(e)
	}
	if _, e := vm.Publics(l, nil, nil); e != api.ErrLarge {
		t.Error(e)
	}
}

// Code that is valid and not made runs somehow, and ends.
func TestStrangeCode(t *testing.T) {
	valid := 0
	for seed := range 5000 {
		r := rand.New(rand.NewSource(int64(seed)))
		w := &writer{r: r}
		p, _, e := tree.Parse(w.program())
		if e != api.OK {
			continue
		}
		l, _ := code.Compile(p)
		for range 1 + r.Intn(4) {
			u := l[r.Intn(len(l))].Code
			i, k := r.Intn(len(u)), r.Intn(len(u))
			switch r.Intn(4) {
			case 0:
				u[i], u[k] = u[k], u[i]
			case 1:
				u[i] = u[k]
			case 2:
				u[i].A = r.Intn(len(u))
			default:
				u[i].Op = r.Intn(60)
			}
		}
		if code.Validate(l) != api.OK {
			continue
		}
		valid++
		vm.Run(l, names, tables())
	}
	if valid < 250 {
		t.Error(valid)
	}
}

func TestEndlessCode(t *testing.T) {
	p, _, _ := tree.Parse(program("do while .t. / x = {1} / enddo"))
	l, _ := code.Compile(p)
	ended := 0
	for i := range l[0].Code {
		endless := code.Copy(l)
		endless[0].Code[i] = api.Code{Op: jumpOp(l), A: 1}
		if code.Validate(endless) == api.OK {
			vm.Run(endless, nil, nil)
			ended++
		}
	}
	if ended == 0 {
		t.Error("no endless code")
	}
}

// jumpOp is the operation of the last jump of a unit.
func jumpOp(l []api.Unit) int {
	jumps := code.Jumps(l)
	at := jumps[len(jumps)-1]
	return l[at[0]].Code[at[1]].Op
}
