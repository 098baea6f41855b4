package expr_test

import (
	"math/rand"
	"reflect"
	"slices"
	"strings"
	"testing"

	"cabinetry/api"
	"cabinetry/expr"
	"cabinetry/tree"
	"cabinetry/val"
)

func truth(n int) api.Value   { return api.Value{Kind: api.Truth, N: n} }
func num(n int) api.Value     { return api.Value{Kind: api.Num, N: n} }
func date(n int) api.Value    { return api.Value{Kind: api.Date, N: n} }
func text(s string) api.Value { return api.Value{Kind: api.Text, S: s} }

var env = api.Env{
	Names: []string{"A", "B", "S", "D", "T", "U", "BIG", "E"},
	Vals:  []api.Value{num(5), num(-2), text("ab "), date(738916), truth(1), {}, num(api.MaxNum), text("\xE9")},
	Page:  1, Rec: 7, Gone: true,
}

// shown is a value as a text, or why there is none.
func shown(v api.Value, why int) string {
	if why != 0 {
		return "die " + string(rune('0'+why))
	}
	s, _ := val.Show(v)
	if v.Kind == api.Text {
		return "'" + s + "'"
	}
	return s
}

// P8.1
func TestEval(t *testing.T) {
	for s, want := range map[string]string{
		"1 + 2 * 3 ^ 2": "19", "a": "5", "X": "die 4", "-a": "-5", "-u": "NIL", "-s": "die 1", "!t": ".F.", ".not. u": "NIL", ".not. 1": "die 1", "7 / 2": "3", "7 / 0": "die 2", "-7 % 2": "-1", "2 ^ -1": "die 3", "big + 1": "die 3",
		"s - 'c'": "'abc '", "d + 1": "2024-02-01", "d - {^2024-01-01}": "30", "'a' + 1": "die 1", "u + 'a'": "NIL", "u + x": "die 4",
		".null. .and. .f.": ".F.", ".f. .and. x": ".F.", ".null. .and. .t.": "NIL", ".t. .and. .null.": "NIL", "1 .and. x": "die 1", ".t. .and. 1": "die 1", ".null. .and. 1": "die 1", ".t. .or. x": ".T.", ".null. .or. .t.": ".T.", ".null. .or. .f.": "NIL", ".f. .or. .f.": ".F.", ".f. .or. 'a'": "die 1",
		".null. = 1": "NIL", "1 = .null.": "NIL", "1 = 'a'": "die 1", ".null. = x": "die 4", "\"abc\" = \"ab\"": ".T.", "\"abc\" == \"ab\"": ".F.", "\"abc\" <> \"ab\"": ".F.", "\"ab\" $ \"cab\"": ".T.", "\"\" $ \"a\"": ".F.", "1 $ 2": "die 1", "'a' $ .null.": "NIL",
		"1 < 2": ".T.", "2 <= 2": ".T.", "2 >= 3": ".F.", "'b' > 'abc'": ".T.", ".f. < .t.": ".T.", "{} < d": ".T.", "1 <> 2": ".T.", "1 == 1": ".T.", "1 < .t.": "die 1",
		"a->b": "die 8", "a[1]": "die 8", "{1}": "die 8", "{|x| 1}": "die 8", "&a": "die 8", "f(@a)": "die 4", "len(@a)": "die 8", "@a": "die 8", "a[x]": "die 8",
		"nofun(x)": "die 4", "len()": "die 5", "len(x, x)": "die 5", "recno(1)": "die 5", "len(x)": "die 4",
		"upper(e)": "'\xC9'", "lower('AB')": "'ab'", "proper('ab cd')": "'Ab Cd'", "len(s)": "3", "len(1)": "die 1", "len(u)": "NIL",
		"empty(0)": ".T.", "empty('  ')": ".T.", "empty(u)": ".T.", "empty({})": ".T.", "empty(.f.)": ".T.", "empty(' a')": ".F.", "empty(b)": ".F.",
		"trim(' a ')": "' a'", "ltrim(' a ')": "'a '", "alltrim(' a ')": "'a'", "isnull(u)": ".T.", "isnull(1)": ".F.", "nvl(u, 3)": "3", "nvl(2, 3)": "2", "nvl(u, u)": "NIL", "nvl(1, x)": "die 4",
		"left('abc', 2)": "'ab'", "left('abc', -1)": "''", "left('abc', 9)": "'abc'", "right('abc', 2)": "'bc'", "right('abc', 0)": "''", "right('abc', 9)": "'abc'", "right('abc', -1)": "''", "left(1, u)": "NIL", "left('a', 'b')": "die 1",
		"if(.t., 1, x)": "1", "if(.f., x, 2)": "2", "if(u, x, 2)": "2", "if(1, 2, 3)": "die 1", "if(.t., u, 1)": "NIL", "if(x, 1, 2)": "die 4", "if(.t., 1)": "die 5",
		"substr('abc', 2)": "'bc'", "substr('abc', 2, 1)": "'b'", "substr('abc', -5, 1)": "'a'", "substr('abc', 9)": "''", "substr('abc')": "die 5",
		"min(1, 2)": "1", "max(1, 2)": "2", "min('a', 'b')": "'a'", "max({}, d)": "2024-01-31", "min(1, 'a')": "die 1", "max(1, u)": "NIL",
		"at('b', 'abc')": "2", "padr('a', 3)": "'a  '", "padl('a', 3)": "'  a'", "padc('a', 4)": "' a  '", "padr('a', -1)": "die 3", "padr('a', 2049)": "die 3",
		"abs(b)": "2", "sign(b)": "-1", "sign(0)": "0", "sign(big)": "1", "mod(-7, 2)": "-1", "mod(1, 0)": "die 2",
		"replicate('ab', 2)": "'abab'", "replicate('ab', -1)": "''", "replicate('ab', 1025)": "die 3", "replicate('', big)": "''", "space(2)": "'  '", "space(big)": "die 3", "len(space(2048))": "2048",
		"between(2, 1, 3)": ".T.", "between(0, 1, 'a')": ".F.", "between(2, 1, 'a')": "die 1", "between(2, u, 1)": ".F.", "between(2, u, 3)": "NIL", "between(u, 1, 2)": "NIL", "between(2, 1, u)": "NIL", "between(4, 1, x)": "die 4",
		"inlist(1, 2, 1, 'a')": ".T.", "inlist(1, 'a', 1)": "die 1", "inlist(1, u, 1)": ".T.", "inlist(1, u, 2)": "NIL", "inlist(u, 1)": "NIL", "inlist(1, 2)": ".F.", "inlist(1)": "die 5", "inlist(1,2,3,4,5,6,7,8,9,1)": ".T.", "inlist(1,2,3,4,5,6,7,8,9,1,1)": "die 5", "inlist('ab', 'a')": ".F.",
		"stuff('abc', 2, 1, 'xy')": "'axyc'", "strtran('aXa', 'a', 'b')": "'bXb'", "stuff(space(2048), 1, 0, 'a')": "die 3", "like('a*', s)": ".T.", "like('A', 'a')": ".F.", "sound('Tymczak')": "'T522'",
		"date(2024, 2, 29)": "2024-02-29", "date(2023, 2, 29)": "die 3", "gomonth(d, 1)": "2024-02-29", "gomonth(d, big)": "die 3", "gomonth({}, 1)": "    -  -  ",
		"str(12, 4)": "'  12'", "str(1, 0)": "die 3", "val(' 12x')": "12", "year(d)": "2024", "month(d)": "1", "day(d)": "31", "dow(d)": "4", "year({})": "0", "year(1)": "die 1",
		"chr(65)": "'A'", "chr(256)": "die 3", "chr(-1)": "die 3", "asc('A')": "65", "asc('')": "0", "asc(e)": "233", "dtos(d)": "'20240131'", "stod('20240131')": "2024-01-31", "stod('x')": "    -  -  ", "dtoc(d)": "'2024-01-31'", "dtoc({})": "'    -  -  '",
		"recno()": "7", "deleted()": ".T.", "type(u)": "'U'", "type(.t.)": "'L'", "type(1)": "'N'", "type(d)": "'D'", "type('')": "'C'", "{^2024-01-31} = d": ".T.",
	} {
		v, why, e := expr.Source(s, env)
		if got := shown(v, why); got != want || e != api.OK || why != 0 && v != (api.Value{}) {
			t.Errorf("%s: %s, want %s", s, got, want)
		}
	}
	exact := env
	exact.Exact, exact.Page = true, 2
	for s, want := range map[string]string{"'abc' = 'ab'": ".F.", "'ab  ' = 'ab'": ".T.", "'ab ' == 'ab'": ".F.", "'abc' <> 'ab'": ".T.", "upper(e)": "'\x99'"} {
		v, why, _ := expr.Source(s, exact)
		if got := shown(v, why); got != want {
			t.Errorf("exact: %s: %s, want %s", s, got, want)
		}
	}
}

func TestErrors(t *testing.T) {
	bad := api.Env{Names: []string{"A"}}
	one, _, _ := tree.ParseExpr("1")
	for i, c := range []struct {
		e    api.Env
		want api.Errno
	}{
		{api.Env{}, api.OK}, {bad, api.ErrFit}, {api.Env{Page: 9, Vals: make([]api.Value, 1)}, api.ErrFit}, {api.Env{Page: 3}, api.ErrArg}, {api.Env{Page: -1}, api.ErrArg}, {api.Env{Rec: -1}, api.ErrArg}, {api.Env{Rec: 302}, api.ErrArg}, {api.Env{Rec: 301}, api.OK},
		{api.Env{Names: []string{"A", "A"}, Vals: make([]api.Value, 2)}, api.ErrArg}, {api.Env{Names: []string{"a"}, Vals: make([]api.Value, 1)}, api.ErrArg}, {api.Env{Names: []string{"A"}, Vals: []api.Value{{N: 1}}}, api.ErrArg},
		{api.Env{Names: []string{"A"}, Vals: []api.Value{text(strings.Repeat("x", 3000))}}, api.ErrArg},
	} {
		_, _, e1 := expr.Eval(one, c.e)
		_, _, e2 := expr.IsTrue(one, c.e)
		_, _, e3 := expr.Source("1", c.e)
		if e := expr.Validate(c.e); e != c.want || e1 != c.want || e2 != c.want || e3 != c.want {
			t.Errorf("environment %d: %d %d %d %d, want %d", i, e, e1, e2, e3, c.want)
		}
	}
	for s, want := range map[string]api.Errno{"": api.ErrSyntax, "1 +": api.ErrSyntax, strings.Repeat("-", 14) + "1": api.ErrLarge} {
		if v, why, e := expr.Source(s, bad); e != want || why != 0 || v != (api.Value{}) {
			t.Errorf("Source %q: %d %d", s, why, e)
		}
	}
	for x, want := range map[int]api.Errno{99: api.ErrArg, api.XList: api.ErrArg} {
		x := api.Expr{Op: x}
		_, _, e1 := expr.Eval(x, bad)
		_, _, e2 := expr.IsTrue(x, bad)
		_, _, _, e3 := expr.Needs(x)
		_, e4 := expr.IsConst(x)
		_, e5 := expr.Fold(x)
		_, e6 := expr.Negate(x)
		_, e7 := expr.Parts(x)
		for i, e := range []api.Errno{e1, e2, e3, e4, e5, e6, e7} {
			if e != want {
				t.Errorf("function %d: %d", i+1, e)
			}
		}
	}
}

func TestIsTrue(t *testing.T) {
	for s, want := range map[string]bool{"t": true, "u": false, "1": false, "'a'": false, "a = 5": true, "x": false} {
		x, _, _ := tree.ParseExpr(s)
		ok, why, e := expr.IsTrue(x, env)
		if ok != want || e != api.OK || (why != 0) != (s == "x") {
			t.Errorf("IsTrue %s: %v %d", s, ok, why)
		}
	}
}

func TestFunctions(t *testing.T) {
	l := expr.Functions()
	if len(l) != 47 || !slices.IsSorted(l) || !slices.Contains(l, "IF") || !slices.Contains(l, "GOMONTH") {
		t.Error(len(l), l)
	}
}

// P8.2
func TestNeeds(t *testing.T) {
	for _, c := range []struct {
		s       string
		names   []string
		recno   bool
		deleted bool
		isConst bool
	}{
		{"b + a + b", []string{"A", "B"}, false, false, false}, {"recno()", nil, true, false, false}, {"if(deleted(), 1, x)", []string{"X"}, false, true, false}, {"1 + len('a')", nil, false, false, true}, {"a->b", []string{"B"}, false, false, false},
		{"{1}", nil, false, false, false}, {"{|x| 1}", nil, false, false, false}, {"&a", nil, false, false, false}, {"'a'[1]", nil, false, false, false}, {"f(@a)", nil, false, false, false}, {".null.", nil, false, false, true}, {"f(1)", nil, false, false, true},
	} {
		x, _, _ := tree.ParseExpr(c.s)
		names, r, d, e := expr.Needs(x)
		k, e2 := expr.IsConst(x)
		if !slices.Equal(names, c.names) || r != c.recno || d != c.deleted || k != c.isConst || e != api.OK || e2 != api.OK {
			t.Errorf("%s: %v %v %v %v", c.s, names, r, d, k)
		}
	}
}

func TestFold(t *testing.T) {
	for s, want := range map[string]string{
		"1 + 2": "3", "a + (1 + 2)": "A + 3", "2 - 7": "2 - 7", "-5": "-5", "-(-5)": "5", "1 / 0": "1 / 0", "a + 1 / 0": "A + (1 / 0)", "'abc' = 'ab'": "\"abc\" = \"ab\"", "'ab' = 'c'": ".F.", "upper('a')": "\"A\"", "upper(chr(233))": "UPPER(CHR(233))", "chr(65)": "\"A\"",
		"chr(10)": "CHR(10)", "chr(34) + chr(39)": "\"\"\"" + " + \"'\"", ".null. + 1": ".NULL.", "if(1 = 1, a, 2 * 3)": "IF(.T., A, 6)", "recno() + (1 + 1)": "RECNO() + 2", "f(1 + 1)": "F(2)", "{1 + 1, {|x| 2 * 3}}": "{2, {|X| 6}}", "a->(1 + 1)": "A->(2)", "&('a' + 'b')": "&(\"ab\")", "'ab' == 'a'": ".F.",
		"date(2024, 1, 1) + 1": "{^2024-01-02}", "1 < 2 .and. a > 1": ".T. .AND. (A > 1)",
	} {
		x, _, _ := tree.ParseExpr(s)
		got, e := expr.Fold(x)
		s2, _ := tree.ExprText(got)
		if s == "chr(34) + chr(39)" {
			want = "'\"' + \"'\""
		}
		if s2 != want || e != api.OK {
			t.Errorf("Fold %s: %s, want %s", s, s2, want)
		}
	}
}

func TestNegate(t *testing.T) {
	for s, want := range map[string]string{
		"a > 1 .and. b": "(A <= 1) .OR. (.NOT. B)", "a = 1 .or. a <> 2": "(A <> 1) .AND. (A = 2)", "a < 1": "A >= 1", "a >= 1": "A < 1", "a <= 1": "A > 1", "a == 1": ".NOT. (A == 1)", "a $ b": ".NOT. (A $ B)", "!(a = 1)": "A = 1", "!!(a = 1)": "A <> 1", "!a": "A .AND. .T.", "a": ".NOT. A",
		"f(!(a = 1))": ".NOT. F(A <> 1)", "!(a .and. !b)": "A .AND. (.NOT. B)", "!!a": ".NOT. A",
	} {
		x, _, _ := tree.ParseExpr(s)
		got, e := expr.Negate(x)
		if s2, _ := tree.ExprText(got); s2 != want || e != api.OK {
			t.Errorf("Negate %s: %s, want %s", s, s2, want)
		}
	}
}

// makeExpr makes expressions of any kind, most of them truths.
func makeExpr(r *rand.Rand, depth int) api.Expr {
	atoms := []string{"A", "B", "T", "U", "S", "1", ".T.", ".F.", ".NULL.", "'ab'", "X", "1 / 0", "2 - 7", "UPPER(S)", "RECNO()", "LEN('a' + 'b')", "CHR(233)", "E"}
	if depth == 0 || r.Intn(6) == 0 {
		x, _, _ := tree.ParseExpr(atoms[r.Intn(len(atoms))])
		return x
	}
	ops := []string{".AND.", ".OR.", ".AND.", ".OR.", "=", "<>", "<", ">", "<=", ">=", "==", "$", "+", "-"}
	switch r.Intn(8) {
	case 0, 1, 2:
		return api.Expr{Op: api.XUn, S: ".NOT.", L: []api.Expr{makeExpr(r, depth-1)}}
	case 3:
		return api.Expr{Op: api.XCall, S: "IF", L: []api.Expr{makeExpr(r, depth-1), makeExpr(r, depth-1), makeExpr(r, depth-1)}}
	case 4:
		return api.Expr{Op: api.XCall, S: []string{"NVL", "MIN", "NONE"}[r.Intn(3)], L: []api.Expr{makeExpr(r, depth-1), makeExpr(r, depth-1)}}
	}
	return api.Expr{Op: api.XBin, S: ops[r.Intn(len(ops))], L: []api.Expr{makeExpr(r, depth-1), makeExpr(r, depth-1)}}
}

// isPushed tells whether .NOT. stands before nothing that it may not stand before.
func isPushed(x api.Expr) bool {
	if x.Op == api.XUn && x.S == ".NOT." {
		y := x.L[0]
		if y.Op == api.XUn && y.S == ".NOT." || y.Op == api.XBin && slices.Contains([]string{".AND.", ".OR.", "=", "<>", "<", ">", "<=", ">="}, y.S) {
			return false
		}
	}
	return !slices.ContainsFunc(x.L, func(x api.Expr) bool { return !isPushed(x) })
}

// hasConstantLeft tells whether something that Fold should have replaced is there.
func hasConstantLeft(x api.Expr) bool {
	if k, _ := expr.IsConst(x); k && x.Op != api.XConst {
		same := true
		first, why, _ := expr.Eval(x, api.Env{})
		for i := range 6 {
			v, w, _ := expr.Eval(x, api.Env{Page: i % 3, Exact: i > 2})
			same = same && v == first && w == 0 && why == 0
		}
		if same && tree.ValidateExpr(api.Expr{V: first}) == api.OK {
			return true
		}
	}
	return slices.ContainsFunc(x.L, hasConstantLeft)
}

func TestNegateAndFoldOfAny(t *testing.T) {
	for i := range 8000 {
		r := rand.New(rand.NewSource(int64(i)))
		x := makeExpr(r, 4)
		neg, e1 := expr.Negate(x)
		fold, e2 := expr.Fold(x)
		if e1 != api.OK || e2 != api.OK || !isPushed(neg) || hasConstantLeft(fold) {
			s, _ := tree.ExprText(x)
			t.Fatal(s, e1, e2)
		}
		for j := range 6 {
			in := env
			in.Page, in.Exact = j%3, j > 2
			in.Vals = slices.Clone(env.Vals)
			for k := range 5 {
				in.Vals[k] = []api.Value{num(1), num(0), text("ab"), truth(0), truth(1), {}}[r.Intn(6)]
			}
			v, why, _ := expr.Eval(x, in)
			fv, fwhy, _ := expr.Eval(fold, in)
			nv, nwhy, _ := expr.Eval(neg, in)
			want, wantWhy := api.Value{}, why
			switch v.Kind {
			case api.Nil:
			case api.Truth:
				want = truth(1 - v.N)
			default:
				wantWhy = api.DieType
			}
			if fv != v || fwhy != why || nv != want || nwhy != wantWhy {
				s, _ := tree.ExprText(x)
				n, _ := tree.ExprText(neg)
				f, _ := tree.ExprText(fold)
				t.Fatalf("%s: %s; negated %s: %s; folded %s: %s", s, shown(v, why), n, shown(nv, nwhy), f, shown(fv, fwhy))
			}
		}
	}
}

func TestParts(t *testing.T) {
	x, _, _ := tree.ParseExpr("a .and. (b .or. c .and. d) .and. (e .and. 1)")
	l, e := expr.Parts(x)
	var got []string
	for _, y := range l {
		s, _ := tree.ExprText(y)
		got = append(got, s)
	}
	if want := []string{"A", "B .OR. (C .AND. D)", "E", "1"}; !reflect.DeepEqual(got, want) || e != api.OK {
		t.Error(got, e)
	}
	l[1].L[0].S = "CHANGED"
	if again, _ := expr.Parts(x); again[1].L[0].S != "B" {
		t.Error("a result shares memory with an argument")
	}
}

func TestTooLargeToNegate(t *testing.T) {
	x, _, _ := tree.ParseExpr(strings.Repeat("-", 13) + "a")
	if _, e := expr.Negate(x); e != api.ErrLarge {
		t.Error(e)
	}
}
