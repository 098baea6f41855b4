package tree_test

import (
	"slices"
	"strings"
	"testing"

	"cabinetry/api"
	"cabinetry/lex"
	"cabinetry/tree"
)

func num(n int) api.Expr     { return api.Expr{V: api.Value{Kind: api.Num, N: n}} }
func name(s string) api.Expr { return api.Expr{Op: api.XName, S: s} }
func bin(op string, x, y api.Expr) api.Expr {
	return api.Expr{Op: api.XBin, S: op, L: []api.Expr{x, y}}
}

// P6.1, P6.2
func TestExprTexts(t *testing.T) {
	for s, want := range map[string]string{
		"a->b + 1":                              "A->B + 1",
		"1+2*3^2^-x":                            "1 + (2 * (3 ^ (2 ^ (-X))))",
		"-2^2":                                  "(-2) ^ 2",
		"--2":                                   "-(-2)",
		"1-2-3":                                 "(1 - 2) - 3",
		"a.or.b.and.!c=d.or.e":                  "(A .OR. (B .AND. (.NOT. (C = D)))) .OR. E",
		".not. .not. a":                         ".NOT. (.NOT. A)",
		"a # b":                                 "A <> B",
		"a!=b":                                  "A <> B",
		"(a$b)==(c<=d)":                         "(A $ B) == (C <= D)",
		"f()+g(1, (2),h(3))":                    "F() + G(1, 2, H(3))",
		"a[1][b[2]]":                            "A[1][B[2]]",
		"(a+b)[1]":                              "(A + B)[1]",
		"{1, {}, {|a,b| a+b}, {||{2}}}":         "{1, {}, {|A, B| A + B}, {|| {2}}}",
		"&m.+&m+&(m+1)[2]":                      "(&M. + &M.) + &(M + 1)[2]",
		"f(@x)":                                 "F(@X)",
		"a->(b->(c+1))":                         "A->(B->(C + 1))",
		"a->(b)":                                "A->B",
		"{^2024-02-29} - {}":                    "{^2024-02-29} - {}",
		"'a\"b' + \"c'd\" + ''":                 "('a\"b' + \"c'd\") + \"\"",
		".T. .or. .f. = .null.":                 ".T. .OR. (.F. = .NULL.)",
		"007":                                   "7",
		"if(if, to, with)":                      "IF(IF, TO, WITH)",
		"1[2]":                                  "1[2]",
		"'a	b'":                                 "\"a	b\"",
		"a;\n+b":                                "A + B",
		"a * b / c % d":                         "((A * B) / C) % D",
		"{|x| x}[1]":                            "{|X| X}[1]",
		"x && comment":                          "X",
		"a < b .and. c > d .or. e >= f .and. g": "((A < B) .AND. (C > D)) .OR. ((E >= F) .AND. G)",
	} {
		x, n, e := tree.ParseExpr(s)
		l, _, _ := lex.Lex(s)
		if e != api.OK || n != len(l) {
			t.Errorf("ParseExpr %q: %d %d", s, n, e)
			continue
		}
		got, e := tree.ExprText(x)
		if got != want || e != api.OK {
			t.Errorf("ExprText of %q: %q %d, want %q", s, got, e, want)
		}
		back, _, e := tree.ParseExpr(got)
		if e != api.OK || !tree.SameExpr(x, back) {
			t.Errorf("%q is not read as it was", got)
		}
	}
}

func TestNodes(t *testing.T) {
	for s, want := range map[string]api.Expr{
		"a->b+1": bin("+", api.Expr{Op: api.XAlias, S: "A", L: []api.Expr{name("B")}}, num(1)),
		"!{}":    {Op: api.XUn, S: ".NOT.", L: []api.Expr{{V: api.Value{Kind: api.Date}}}},
		"&a":     {Op: api.XMacro, S: "A"},
		"&(a)":   {Op: api.XMacro, L: []api.Expr{name("A")}},
		"@a":     {Op: api.XRef, S: "A"},
		"{|a|1}": {Op: api.XBlock, P: []string{"A"}, L: []api.Expr{num(1)}},
		"{1}":    {Op: api.XList, L: []api.Expr{num(1)}},
		"a[1]":   {Op: api.XIndex, L: []api.Expr{name("A"), num(1)}},
		"a(1)":   {Op: api.XCall, S: "A", L: []api.Expr{num(1)}},
		".t.":    {V: api.Value{Kind: api.Truth, N: 1}},
		".null.": {},
		"'x'":    {V: api.Value{Kind: api.Text, S: "x"}},
	} {
		if x, _, e := tree.ParseExpr(s); e != api.OK || !tree.SameExpr(x, want) {
			t.Errorf("%q: %v %d", s, x, e)
		}
	}
}

func TestExprErrors(t *testing.T) {
	for _, c := range []struct {
		s  string
		at int
		e  api.Errno
	}{
		{"", 0, api.ErrSyntax}, {"~", 0, api.ErrSyntax}, {"a ~", 2, api.ErrSyntax}, {"a b", 1, api.ErrSyntax}, {"a = b = c", 3, api.ErrSyntax}, {"a +", 2, api.ErrSyntax}, {"(a", 2, api.ErrSyntax}, {"a\nb", 2, api.ErrSyntax},
		{"f(,)", 2, api.ErrSyntax}, {"{ }", 1, api.ErrSyntax}, {"{|1|2}", 2, api.ErrSyntax}, {"a->1", 2, api.ErrSyntax}, {"abcdefghijk", 0, api.ErrSyntax}, {"@1", 1, api.ErrSyntax}, {"&'a'", 1, api.ErrSyntax},
		{"a = .not. b", 2, api.ErrSyntax}, {"1 + 'x' + '" + strings.Repeat("a", 2049) + "'", 4, api.ErrSyntax}, {"a.", 1, api.ErrSyntax}, {"a->(b", 4, api.ErrSyntax}, {")", 0, api.ErrSyntax},
		{strings.Repeat("(", 13) + "a" + strings.Repeat(")", 13), 28, api.OK}, {strings.Repeat("-", 13) + "a", 15, api.OK}, {strings.Repeat("-", 14) + "a", 0, api.ErrLarge},
		{strings.Repeat("a,", 10) + "a", 1, api.ErrSyntax}, {"f(" + strings.Repeat("a,", 398) + "a)", 801, api.OK}, {"f(" + strings.Repeat("a,", 399) + "a)", 0, api.ErrLarge}, {strings.Repeat(" ", 4001), 0, api.ErrLarge},
		{strings.Repeat("a ", 601) + strings.Repeat("b ", 599), 0, api.ErrLarge},
	} {
		if _, n, e := tree.ParseExpr(c.s); n != c.at || e != c.e {
			t.Errorf("ParseExpr %.30q: %d %d, want %d %d", c.s, n, e, c.at, c.e)
		}
	}
}

const everything = `x := 1
X[2] := 3
A->F := 4
&M. := 5
&(M) := 6
?
? 1, "a"
F(1)
LOCAL A, B := 2
PRIVATE A
PUBLIC A := 1 + 2
STATIC A
IF X
  ? 1
ELSEIF Y
  IF Z
  ENDIF
ELSE
  ? 2
ENDIF
DO WHILE X
  LOOP
  EXIT
ENDDO
FOR I = 1 TO 10
NEXT
FOR I = 10 TO 1 STEP -1
  ? I
NEXT
RETURN
RETURN X
DO P
DO P WITH 1, X
BREAK
BREAK 5
BEGIN SEQUENCE
  ? 1
END
BEGIN SEQUENCE
RECOVER
END
BEGIN SEQUENCE
RECOVER USING E
  ? E
END
SELECT A
USE
USE T
USE T ALIAS A
GO TOP
GO BOTTOM
GO 5
SKIP
SKIP -1
SEEK "a"
LOCATE
LOCATE ALL FOR X > 1 WHILE Y
CONTINUE
REPLACE A WITH 1
REPLACE A WITH 1, B WITH 2 NEXT 5 FOR X
DELETE REST
RECALL RECORD 5
APPEND BLANK
PACK
ZAP
COUNT TO N
COUNT TO N WHILE X
SUM A + B TO N ALL
INDEX ON A TAG T
INDEX ON UPPER(A) TAG T FOR B > 1 UNIQUE DESCENDING
INDEX ON A TAG T CANDIDATE
INDEX ON A TAG T DESCENDING
SET ORDER TO
SET ORDER TO T
SET FILTER TO
SET FILTER TO A > 1
SET RELATION TO
SET RELATION TO A INTO B
SET EXACT ON
SET DELETED OFF
PROCEDURE P(A, B)
? A
FUNCTION F
RETURN 1
`

func TestPrograms(t *testing.T) {
	want := strings.Replace(everything, "x := 1", "X := 1", 1)
	p, n, e := tree.Parse(everything)
	l, _, _ := lex.Lex(everything)
	if e != api.OK || n != len(l) {
		t.Fatal("Parse", n, e)
	}
	if e := tree.Validate(p); e != api.OK {
		t.Fatal("Validate", e)
	}
	got, e := tree.Text(p)
	if got != want || e != api.OK {
		t.Errorf("Text: %d\n%s", e, got)
	}
	back, _, _ := tree.Parse(got)
	if !tree.Same(p, back) {
		t.Error("Parse of Text")
	}
	if len(p) != 3 || p[0].Name != "MAIN" || !slices.Equal(p[1].P, []string{"A", "B"}) || p[1].Fn || !p[2].Fn {
		t.Error("procedures")
	}
}

func TestReadings(t *testing.T) {
	for s, want := range map[string]string{
		"if = 1":                                 "IF := 1\n",
		"next[1] := 2":                           "NEXT[1] := 2\n",
		"end->x = 2":                             "END->X := 2\n",
		"repl name with upper(name) for age > 3": "REPLACE NAME WITH UPPER(NAME) FOR AGE > 3\n",
		"dele\nreca\nloca a\nlocat":              "DELETE\nRECALL\nLOCAL A\nLOCATE\n",
		"go top + 1":                             "GO TOP + 1\n",
		"go bott":                                "GO BOTTOM\n",
		"do whil x\nendd":                        "DO WHILE X\nENDDO\n",
		"do case\ncase a\n? 1\ncase b\nothe\n? 2\nendc": "IF A\n  ? 1\nELSEIF B\nELSE\n  ? 2\nENDIF\n",
		"for i = 1 to 2 step 1\nnext = 3\nnext":         "FOR I = 1 TO 2\n  NEXT := 3\nNEXT\n",
		"coun to n for a while b":                       "COUNT TO N FOR A WHILE B\n",
		"dele while b for a next 2":                     "DELETE NEXT 2 FOR A WHILE B\n",
		"procedure = 1\nproc p\nfunc q()":               "PROCEDURE := 1\nPROCEDURE P\nFUNCTION Q\n",
		"use alias alias b":                             "USE ALIAS ALIAS B\n",
		"set dele on":                                   "SET DELETED ON\n",
		"do next":                                       "DO NEXT\n",
		"x = a = b":                                     "X := A = B\n",
		"local a := .null.":                             "LOCAL A\n",
		"":                                              "",
	} {
		p, _, e := tree.Parse(s)
		got, e2 := tree.Text(p)
		if s == "set dele on" { // DELE is DELETE, and SET has DELETED
			if e != api.ErrSyntax {
				t.Error("set dele on", e)
			}
			continue
		}
		if got != want || e != api.OK || e2 != api.OK {
			t.Errorf("%q: %q %d %d", s, got, e, e2)
		}
	}
}

func TestCommandNodes(t *testing.T) {
	for s, want := range map[string]api.Stmt{
		"append blank":                     {Op: api.SCmd, S: "APPEND"},
		"go top":                           {Op: api.SCmd, S: "GO", T: "TOP"},
		"go x":                             {Op: api.SCmd, S: "GO", X: []api.Expr{name("X")}},
		"use t alias a":                    {Op: api.SCmd, S: "USE", P: []string{"T", "A"}},
		"index on a tag t for b uniq desc": {Op: api.SCmd, S: "INDEX", T: "UNIQUE", P: []string{"T", "DESCENDING"}, X: []api.Expr{name("A"), name("B")}},
		"set relation to a into b":         {Op: api.SCmd, S: "RELATION", P: []string{"B"}, X: []api.Expr{name("A")}},
		"set exact off":                    {Op: api.SCmd, S: "EXACT", T: "OFF"},
		"replace a with 1, b with 2 rest":  {Op: api.SCmd, S: "REPLACE", P: []string{"A", "B"}, X: []api.Expr{num(1), num(2)}, C: api.Scope{Kind: api.Rest}},
		"sum a to b record 3 while c":      {Op: api.SCmd, S: "SUM", P: []string{"B"}, X: []api.Expr{name("A")}, C: api.Scope{Kind: api.Single, N: []api.Expr{num(3)}, While: []api.Expr{name("C")}}},
		"begin sequence\nend":              {Op: api.SGuard, B: [][]api.Stmt{nil}},
		"for i = 1 to 2\nnext":             {Op: api.SFor, S: "I", X: []api.Expr{num(1), num(2), num(1)}, B: [][]api.Stmt{nil}},
		"public a":                         {Op: api.SDeclare, S: "PUBLIC", P: []string{"A"}, X: []api.Expr{{}}},
	} {
		p, _, e := tree.Parse(s)
		if want := []api.Proc{{Name: "MAIN", Body: []api.Stmt{want}}}; e != api.OK || !tree.Same(p, want) {
			t.Errorf("%q: %v %d", s, p, e)
		}
	}
}

func TestParseErrors(t *testing.T) {
	deep := strings.Repeat("if x\n", 14) + strings.Repeat("endif\n", 14)
	for _, c := range []struct {
		s  string
		at int
		e  api.Errno
	}{
		{"x", 1, api.ErrSyntax}, {"1", 0, api.ErrSyntax}, {"x = 1\nnext", 4, api.ErrSyntax}, {"if x", 3, api.ErrSyntax}, {"if x\nelse\nelse\nendif", 5, api.ErrSyntax}, {"if x\nnext\nendif", 3, api.ErrSyntax},
		{"do case\nendcase", 3, api.ErrSyntax}, {"do case\notherwise\nendcase", 3, api.ErrSyntax}, {"to(1)", 0, api.ErrSyntax}, {"foo bar", 1, api.ErrSyntax}, {"f(1) = 2", 4, api.ErrSyntax}, {"a[1][2] = 3", 4, api.ErrSyntax},
		{"abcdefghijk = 1", 0, api.ErrSyntax}, {"x = abcdefghijk", 2, api.ErrSyntax}, {"x =", 2, api.ErrSyntax}, {"use t u", 2, api.ErrSyntax}, {"delete all rest", 2, api.ErrSyntax}, {"delete for a for b", 3, api.ErrSyntax}, {"append", 1, api.ErrSyntax},
		{"set", 1, api.ErrSyntax}, {"set exact", 2, api.ErrSyntax}, {"set relation to a", 4, api.ErrSyntax}, {"go", 1, api.ErrSyntax}, {"procedure f(", 3, api.ErrSyntax}, {"procedure f()\nif x\nprocedure g\nendif", 8, api.ErrSyntax}, {"for i = 1\nnext", 4, api.ErrSyntax},
		{"a->f->g = 1", 3, api.ErrSyntax}, {"&a. 5", 3, api.ErrSyntax}, {"retu", 0, api.OK}, {"? 1,", 3, api.ErrSyntax}, {"x 'a", 2, api.ErrSyntax}, {"begin\nend", 1, api.ErrSyntax}, {"index on a tag t descending unique", 6, api.ErrSyntax},
		{"procedure a\nfunction a", 0, api.ErrTwice}, {"procedure main", 0, api.ErrTwice}, {"procedure a\nprocedure a\n" + strings.Repeat("?\n", 401), 0, api.ErrTwice},
		{strings.Repeat("?\n", 400), 800, api.OK}, {strings.Repeat("?\n", 401), 0, api.ErrLarge}, {deep, 0, api.ErrLarge}, {strings.Repeat("a", 4001), 0, api.ErrLarge},
		{strings.Repeat("if x\n", 13) + strings.Repeat("endif\n", 13), 65, api.OK},
	} {
		if c.s == "retu" {
			c.at = 2
		}
		if p, n, e := tree.Parse(c.s); n != c.at || e != c.e || e != api.OK && p != nil {
			t.Errorf("Parse %.30q: %d %d, want %d %d", c.s, n, e, c.at, c.e)
		}
	}
}

// P6.2
func TestValidateErrors(t *testing.T) {
	main := func(s ...api.Stmt) []api.Proc { return []api.Proc{{Name: "MAIN", Body: s}} }
	many := make([]api.Stmt, 401)
	for i := range many {
		many[i].Op = api.SPrint
	}
	text := func(s string) api.Expr { return api.Expr{V: api.Value{Kind: api.Text, S: s}} }
	for i, c := range []struct {
		p []api.Proc
		e api.Errno
	}{
		{nil, api.ErrArg}, {main(), api.OK}, {[]api.Proc{{Name: "A"}}, api.ErrArg}, {[]api.Proc{{Name: "MAIN", Fn: true}}, api.ErrArg}, {[]api.Proc{{Name: "MAIN", P: []string{"A"}}}, api.ErrArg},
		{append(main(), api.Proc{Name: "A"}, api.Proc{Name: "A"}), api.ErrArg}, {append(main(), api.Proc{Name: "a"}), api.ErrArg}, {append(main(), api.Proc{Name: "A", P: []string{"1"}}), api.ErrArg},
		{append(main(many...), api.Proc{}), api.ErrLarge}, {main(many[:400]...), api.OK},
		{main(api.Stmt{Op: api.SGuard, S: "E", B: make([][]api.Stmt, 1)}), api.ErrArg}, {main(api.Stmt{Op: api.SGuard, S: "E", B: make([][]api.Stmt, 2)}), api.OK},
		{main(api.Stmt{Op: api.SCmd, S: "GO", X: []api.Expr{name("TOP")}}), api.ErrArg}, {main(api.Stmt{Op: api.SCmd, S: "GO", X: []api.Expr{name("BOTT")}}), api.ErrArg}, {main(api.Stmt{Op: api.SCmd, S: "GO", X: []api.Expr{name("BOT")}}), api.OK},
		{main(api.Stmt{Op: api.SDo, S: "CASE"}), api.ErrArg}, {main(api.Stmt{Op: api.SDo, S: "WHIL"}), api.ErrArg}, {main(api.Stmt{Op: api.SDo, S: "IF"}), api.OK},
		{main(api.Stmt{Op: api.SEval, X: []api.Expr{{Op: api.XCall, S: "COUN"}}}), api.ErrArg}, {main(api.Stmt{Op: api.SEval, X: []api.Expr{{Op: api.XCall, S: "COU"}}}), api.OK}, {main(api.Stmt{Op: api.SEval, X: []api.Expr{num(1)}}), api.ErrArg},
		{main(api.Stmt{Op: api.SSet, X: []api.Expr{num(1), num(1)}}), api.ErrArg}, {main(api.Stmt{Op: api.SSet, X: []api.Expr{name("A"), num(-1)}}), api.ErrArg}, {main(api.Stmt{Op: api.SSet, X: []api.Expr{name("A"), num(api.MaxNum)}}), api.ErrArg},
		{main(api.Stmt{Op: api.SSet, X: []api.Expr{name("A"), text("'\"")}}), api.ErrArg}, {main(api.Stmt{Op: api.SSet, X: []api.Expr{name("A"), text("\n")}}), api.ErrArg}, {main(api.Stmt{Op: api.SSet, X: []api.Expr{name("A"), text("\t'")}}), api.OK},
		{main(api.Stmt{Op: api.SSet, X: []api.Expr{name("A"), text(strings.Repeat("a", 2049))}}), api.ErrArg}, {main(api.Stmt{Op: api.SSet, T: "x", X: []api.Expr{name("A"), num(1)}}), api.ErrArg}, {main(api.Stmt{Op: 99}), api.ErrArg}, {main(api.Stmt{Op: -1}), api.ErrArg},
		{main(api.Stmt{Op: api.SCmd, S: "PACK", C: api.Scope{Kind: api.All}}), api.ErrArg}, {main(api.Stmt{Op: api.SCmd, S: "DELETE", C: api.Scope{Kind: api.Next}}), api.ErrArg}, {main(api.Stmt{Op: api.SCmd, S: "DELETE", C: api.Scope{Kind: 5}}), api.ErrArg},
		{main(api.Stmt{Op: api.SCmd, S: "DELETE", C: api.Scope{N: []api.Expr{num(1)}}}), api.ErrArg}, {main(api.Stmt{Op: api.SCmd, S: "DELETE", C: api.Scope{For: []api.Expr{num(1), num(2)}}}), api.ErrArg},
		{main(api.Stmt{Op: api.SCmd, S: "DELETED"}), api.ErrArg}, {main(api.Stmt{Op: api.SCmd, S: "NONE"}), api.ErrArg}, {main(api.Stmt{Op: api.SIf, X: []api.Expr{num(1)}}), api.ErrArg},
	} {
		if e := tree.Validate(c.p); e != c.e {
			t.Errorf("case %d: %d, want %d", i, e, c.e)
		}
		if _, e := tree.Text(c.p); e != c.e {
			t.Errorf("Text of case %d: %d", i, e)
		}
	}
}

func TestValidateExpr(t *testing.T) {
	ring := make([]api.Expr, 1)
	ring[0] = api.Expr{Op: api.XUn, S: "-", L: ring}
	for i, c := range []struct {
		x api.Expr
		e api.Errno
	}{
		{api.Expr{}, api.OK}, {name("a"), api.ErrArg}, {name(""), api.ErrArg}, {api.Expr{Op: api.XName, S: "A", L: []api.Expr{num(1)}}, api.ErrArg}, {api.Expr{Op: api.XName, S: "A", V: api.Value{N: 1}}, api.ErrArg},
		{api.Expr{S: "A"}, api.ErrArg}, {bin("#", num(1), num(1)), api.ErrArg}, {bin("^", num(1), num(1)), api.OK}, {api.Expr{Op: api.XUn, S: "!", L: []api.Expr{num(1)}}, api.ErrArg}, {api.Expr{Op: api.XUn, S: "-"}, api.ErrArg},
		{api.Expr{Op: api.XList}, api.ErrArg}, {api.Expr{Op: api.XBlock, P: []string{"1"}, L: []api.Expr{num(1)}}, api.ErrArg}, {api.Expr{Op: api.XMacro}, api.ErrArg}, {api.Expr{Op: api.XMacro, S: "A", L: []api.Expr{num(1)}}, api.ErrArg},
		{api.Expr{Op: 11}, api.ErrArg}, {api.Expr{Op: -1}, api.ErrArg}, {ring[0], api.ErrLarge}, {api.Expr{Op: 99, L: make([]api.Expr, 500)}, api.ErrLarge}, {api.Expr{V: api.Value{Kind: 2, N: 1, S: "x"}}, api.ErrArg},
	} {
		if e := tree.ValidateExpr(c.x); e != c.e {
			t.Errorf("case %d: %d, want %d", i, e, c.e)
		}
		_, e1 := tree.ExprText(c.x)
		_, e2 := tree.Names(c.x)
		_, e3 := tree.Swap(c.x, "A", api.Expr{Op: -1})
		if e1 != c.e || e2 != c.e || c.e != api.OK && e3 != c.e || c.e == api.OK && e3 != api.ErrArg {
			t.Errorf("functions with case %d: %d %d %d", i, e1, e2, e3)
		}
	}
	x := name("A")
	long := api.Expr{V: api.Value{Kind: api.Text, S: strings.Repeat("a", 2000)}}
	if _, e := tree.ExprText(bin("+", long, bin("+", long, x))); e != api.ErrLarge {
		t.Error("a text that is too long", e)
	}
	if _, e := tree.Text([]api.Proc{{Name: "MAIN", Body: []api.Stmt{{Op: api.SPrint, X: []api.Expr{long, long}}}}}); e != api.ErrLarge {
		t.Error("a program that is too long", e)
	}
}

// P6.3
func TestSize(t *testing.T) {
	for s, want := range map[string][2]int{
		"": {0, 0}, "?": {1, 1}, "x = 1": {3, 2}, "if a + 1\n? b\nendif": {6, 3}, "delete next 5 for a > 1": {5, 3}, "local a": {2, 2}, "for i = 1 to 2\nnext": {4, 2}, "a->b = 1\nprocedure p\n?": {5, 3},
	} {
		p, _, _ := tree.Parse(s)
		if n, l, e := tree.Size(p); [2]int{n, l} != want || e != api.OK {
			t.Errorf("Size of %q: %d %d", s, n, l)
		}
	}
	if _, _, e := tree.Size(nil); e != api.ErrArg {
		t.Error("Size of nothing")
	}
}

func TestNamesAndSwap(t *testing.T) {
	for s, want := range map[string][2]string{
		"b + a + b":                {"A B", "B + (9 * C) + B"},
		"x->a + a":                 {"A", "X->A + (9 * C)"},
		"x->(a + b)":               {"", "X->(A + B)"},
		"{|a, d| a + d + b} + a":   {"A B", "{|A, D| A + D + B} + (9 * C)"},
		"{|d| a}":                  {"A", "{|D| 9 * C}"},
		"{|a| {|b| a + b + c}}":    {"C", "{|A| {|B| A + B + C}}"},
		"a(a)[a] + &a + &(a) + @a": {"A", "A(9 * C)[9 * C] + &A. + &(9 * C) + @A"},
		"1":                        {"", "1"},
	} {
		x, _, _ := tree.ParseExpr(s)
		l, e := tree.Names(x)
		if strings.Join(l, " ") != want[0] || e != api.OK {
			t.Errorf("Names of %q: %v", s, l)
		}
		by, _, _ := tree.ParseExpr("9 * c")
		got, e := tree.Swap(x, "A", by)
		wanted, _, _ := tree.ParseExpr(want[1])
		if e != api.OK || !tree.SameExpr(got, wanted) {
			s, _ := tree.ExprText(got)
			t.Errorf("Swap in %q: %s", want[0], s)
		}
	}
	x, _, _ := tree.ParseExpr(strings.Repeat("-", 12) + "a")
	if _, e := tree.Swap(x, "A", bin("+", num(1), num(2))); e != api.OK {
		t.Error("Swap that just fits", e)
	}
	if _, e := tree.Swap(x, "A", bin("+", num(1), bin("+", num(1), num(2)))); e != api.ErrLarge {
		t.Error("Swap that is too deep", e)
	}
}

func TestSwapIsNew(t *testing.T) {
	x, _, _ := tree.ParseExpr("a + x->a")
	by, _, _ := tree.ParseExpr("b + 1")
	got, _ := tree.Swap(x, "A", by)
	got.L[0].L[0].S = "CHANGED"
	got.L[1].L[0].S = "CHANGED"
	if by.L[0].S != "B" || x.L[1].L[0].S != "A" {
		t.Error("a result shares memory with an argument")
	}
}

func TestSame(t *testing.T) {
	p, _, _ := tree.Parse(everything)
	q, _, _ := tree.Parse(everything)
	if !tree.Same(p, q) || !tree.Same(nil, []api.Proc{}) || tree.Same(p, p[:2]) {
		t.Error("Same")
	}
	q[0].Body[12].B[0][0].X[0].V.N++
	if tree.Same(p, q) {
		t.Error("Same of unlike ones")
	}
	if !tree.SameExpr(api.Expr{P: []string{}}, api.Expr{L: []api.Expr{}}) || tree.SameExpr(name("A"), name("B")) || tree.SameExpr(bin("+", num(1), num(2)), bin("+", num(1), num(3))) {
		t.Error("SameExpr")
	}
}

func TestWords(t *testing.T) {
	l := tree.Words()
	if len(l) != 66 || !slices.IsSorted(l) {
		t.Error(len(l))
	}
	for _, s := range []string{"ALIAS", "DELETED", "DESCENDING", "PROCEDURE", "USING", "ZAP"} {
		if !slices.Contains(l, s) {
			t.Error(s)
		}
	}
}
