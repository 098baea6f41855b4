package pre_test

import (
	"math/rand"
	"reflect"
	"strings"
	"testing"

	"cabinetry/api"
	"cabinetry/lex"
	"cabinetry/pre"
	"cabinetry/tree"
)

// P7.1
func TestExpand(t *testing.T) {
	for _, c := range []struct{ s, want string }{
		{"", ""},
		{"a = 1 ;\n + 2\n* c\n? 'x'", "A = 1 + 2\n? \"x\"\n"},
		{"#define A B\n#DEFINE B A\na b", "A B\n"},
		{"#define A B + A\na", "B + A\n"},
		{"#define A 1 + B\n#define B 2\n? a", "? 1 + 2\n"},
		{"? a\n#define A 1\n? a\n#undef a\n? a\n#undef none", "? A\n? 1\n? A\n"},
		{"#define A 1\n#define A 2\n? a", "? 2\n"},
		{"#define A\n? a b\na", "? B\n"},
		{"  #  defi A 1 && any \x80 ~ 'x\n? a", "? 1\n"},
		{"#define A '&& ;' && x\n? a", "? \"&& ;\"\n"},
		{"#ifdef A\n? 1 ~\n#junk\n#else\n? 2\n#endif\n? 3", "? 2\n? 3\n"},
		{"#define A\n#ifdef a\n? 1\n#else && x\n? 2\n#endif && y\n? 3", "? 1\n? 3\n"},
		{"#ifndef A\n? 1\n#else\n? 2\n#endif", "? 1\n"},
		{"#ifdef A\n#ifdef B\n#else\n? 1\n#else\n#endif\n#define C\n#else\n#ifndef C\n? 2\n#endif\n#endif", "? 2\n"},
		{"#define A\n#ifdef A\n#ifdef B\n? 1\n#endif\n? 2\n#endif", "? 2\n"},
		{"x = a ;\n# b", "X = A # B\n"},
		{"#COMMAND UPSERT <f> WITH <v> => REPLACE <f> WITH <v>\nupsert a with 1 + 2\nupse a with 1", "REPLACE A WITH 1 + 2\nREPLACE A WITH 1\n"},
		{"#COMMAND SHOW <x,...> [AT <n>] => ? <x> [, <n>]\nshow 1, 2 at 3\nshow 1\nshow f(1, 2)", "? 1 , 2 , 3\n? 1\n? F ( 1 , 2 )\n"},
		{"#TRANSLATE TWICE(<x>) => ((<x>) * 2)\n? twice(1 + f(2)) + twice(twice(3))", "? ( ( 1 + F ( 2 ) ) * 2 ) + ( ( ( ( 3 ) * 2 ) ) * 2 )\n"},
		{"#COMMAND A <x> => ? <x>\n#COMMAND A <x> => ?? <x>\na 1", "? ? 1\n"},
		{"#COMMAND FOO => BAR\n#COMMAND BAR => BAZ\nfoo\nfoo 1", "BAZ\nFOO 1\n"},
		{"#TRANSLATE FOO => BAR\nfoo foo\nfood", "BAR BAR\nFOOD\n"},
		{"#TRANSLATE FOOD => BAR\n#COMMAND FOOD => BAZ\nfood", "BAR\n"},
		{"#TRANSLATE FOOD => BAR\nfooddd\n? foo", "FOODDD\n? FOO\n"},
		{"#COMMAND GONE =>\ngone\n? 1", "? 1\n"},
		{"#define X 5\n#COMMAND TELL <a> => ? <a>, <\"a\">, <.a.>, <.b.>\ntell x + 'y'", "? 5 + \"y\" , '5 + \"y\"' , .T. , .F.\n"},
		{"#define IF WENN\nif", "WENN\n"},
	} {
		if got, e := pre.Expand(c.s); got != c.want || e != api.OK {
			t.Errorf("Expand %q:\n%q %d, want\n%q", c.s, got, e, c.want)
		}
	}
}

func TestExpandErrors(t *testing.T) {
	many := strings.Repeat("#command x => y\n", 40)
	for _, c := range []struct {
		s string
		e api.Errno
	}{
		{strings.Repeat(" ", 4001), api.ErrLarge}, {"a ~", api.ErrSyntax}, {"#else", api.ErrSyntax}, {"#endif", api.ErrSyntax}, {"#ifdef a", api.ErrSyntax}, {"#ifdef", api.ErrSyntax}, {"#ifdef a b\n#endif", api.ErrSyntax},
		{"#ifndef a\n#else x\n#endif", api.ErrSyntax}, {"#ifndef a\n#else\n#else\n#endif", api.ErrSyntax}, {"#ifdef a\n#else\n#else\n#endif", api.ErrSyntax}, {"#ifndef a\n#endif x", api.ErrSyntax}, {"#junk", api.ErrSyntax}, {"#", api.ErrSyntax}, {"#define", api.ErrSyntax},
		{"#define 1 2", api.ErrSyntax}, {"#define a ;\n2", api.ErrSyntax}, {"#define a ~", api.ErrSyntax}, {"#define a 'x", api.ErrSyntax}, {"#undef a b", api.ErrSyntax}, {"#define abcdefghijk 1", api.ErrSyntax}, {"#define a\x80", api.ErrSyntax},
		{many, api.OK}, {many + "#define a", api.ErrLarge}, {many + "#define", api.ErrSyntax}, {many + "#ifdef a\n#define b\n#endif", api.OK},
		{"#command a => a\na", api.ErrLarge}, {"#translate a => a a\na", api.ErrLarge}, {strings.Repeat("#define a a2\n#undef a\n", 41), api.OK},
		{"#ifndef a\n#command a => a\na", api.ErrLarge}, {"#define a '" + strings.Repeat("x", 1900) + "'\n? a\n? a\n", api.OK}, {"#define a '" + strings.Repeat("x", 1900) + "'\n? a a a\n", api.ErrLarge}, {"#define a '" + strings.Repeat("x", 1900) + "'\n? a\n? a\n? a", api.ErrLarge},
		{"#define a '" + strings.Repeat("x", 1900) + "'\n? a a a\n~", api.ErrLarge}, {"#define a '" + strings.Repeat("x", 1900) + "'\n? a\n? a\n? a\n~", api.ErrSyntax}, {"#define a * 2\na", api.ErrSyntax}, {"#define a && ok", api.OK},
	} {
		if got, e := pre.Expand(c.s); e != c.e || e != api.OK && got != "" {
			t.Errorf("Expand %.60q: %d, want %d", c.s, e, c.e)
		}
		if l, e := pre.Defined(c.s); e != c.e || e != api.OK && l != nil {
			t.Errorf("Defined %.60q: %d, want %d", c.s, e, c.e)
		}
	}
}

// Just 40 replacements are right.
func TestFortyReplacements(t *testing.T) {
	for n, want := range map[int]api.Errno{40: api.OK, 41: api.ErrLarge} {
		s := "#define a 1\n?" + strings.Repeat(" a", n)
		if _, e := pre.Expand(s); e != want {
			t.Errorf("%d replacements: %d", n, e)
		}
	}
}

func TestExpandIsJoin(t *testing.T) {
	for _, s := range []string{"", "a", "a;\n+b\n\n* c\n? {} {^2024-01-01} 'x' && y\n", " if = .t.", "x ;", "? a # b"} {
		l, _, _ := lex.Lex(s)
		want, _ := lex.Join(l)
		if got, e := pre.Expand(s); got != want || e != api.OK {
			t.Errorf("Expand %q: %q", s, got)
		}
	}
}

// P7.2
func TestLine(t *testing.T) {
	for _, c := range []struct {
		s     string
		rules []string
		want  string
		e     api.Errno
	}{
		{"a b", []string{"#define a 1", " # DEFINE b 2 && c"}, "1 2", api.OK}, {"a", nil, "A", api.OK}, {"", nil, "", api.OK}, {"a ;\n b", nil, "A B", api.OK}, {"a\n", nil, "A", api.OK},
		{"a\nb", nil, "", api.ErrSyntax}, {"~", nil, "", api.ErrSyntax}, {"~", []string{"#undef a"}, "", api.ErrSyntax}, {"a", []string{"#define a a2", "#define " + strings.Repeat(" ", 200)}, "", api.ErrLarge},
		{"a", []string{"#ifdef a", strings.Repeat(" ", 201)}, "", api.ErrSyntax}, {"a", []string{"#command a => b", "#command b => a"}, "", api.ErrLarge}, {strings.Repeat(" ", 4001), nil, "", api.ErrLarge},
		{"zap 5", []string{"#command ZAP => NO"}, "ZAP 5", api.OK},
	} {
		if got, e := pre.Line(c.s, c.rules); got != c.want || e != c.e {
			t.Errorf("Line %.20q: %q %d", c.s, got, e)
		}
	}
}

func TestCheck(t *testing.T) {
	for s, want := range map[string]api.Errno{
		"#define a": api.OK, "#comm a => b": api.OK, "#TRANS a <b> => <b>": api.OK, "": api.ErrSyntax, "a": api.ErrSyntax, "#undef a": api.ErrSyntax, "#else": api.ErrSyntax,
		"#command a": api.ErrSyntax, "#command => a": api.ErrSyntax, "#command <x> => a": api.ErrSyntax, "#command [a] => a": api.ErrSyntax, "#command a [<x>] => b": api.ErrSyntax, "#command a [] => b": api.ErrSyntax,
		"#command a [b [c]] => b": api.ErrSyntax, "#command a [b => c": api.ErrSyntax, "#command a ] => c": api.ErrSyntax, "#command a 'x' => c": api.ErrSyntax, "#command a 1 => c": api.ErrSyntax, "#command a <x> <x> => c": api.ErrSyntax, "#command a <x> [b <x>] => c": api.ErrSyntax,
		"#command a => [b [c]]": api.ErrSyntax, "#command a => [b": api.ErrSyntax, "#command a => b]": api.ErrSyntax, "#command a => 'x": api.ErrSyntax, "#command a => ~": api.ErrSyntax, "#command a \\[ => \\] \\<": api.OK, "#command a \\x => b": api.ErrSyntax,
		"#command a => 1 'x' {} <x>": api.OK, "#command a [b <x>] [c <y:ON,OFF>] <z,...> => <\"x\"> [<.y.> <z>]": api.OK, "#command a < b > c => d": api.OK, "#command a <b:1> => c": api.ErrSyntax, "#command a <b c => d": api.OK,
		"#command a => b\n": api.ErrSyntax, "#command a => b ;": api.ErrSyntax, "#command a => " + strings.Repeat("b", 186): api.ErrSyntax, "#command a => " + strings.Repeat(" ", 186): api.OK, "#command a => " + strings.Repeat(" ", 187): api.ErrLarge, "#command a <abcdefghijk> => b": api.OK,
		"#command a == > b => c": api.OK, "#command a ==> b": api.ErrSyntax, "#define a\n": api.ErrSyntax, "#command a [b => c] => d": api.ErrSyntax,
	} {
		if e := pre.Check(s); e != want {
			t.Errorf("Check %.40q: %d, want %d", s, e, want)
		}
	}
}

func TestMatch(t *testing.T) {
	for _, c := range []struct {
		pattern, s string
		want       [][2]string
		ok         bool
		e          api.Errno
	}{
		{"a <x>", "a 1 + 2", [][2]string{{"X", "1 + 2"}}, true, api.OK},
		{"a <x>", "a 1, 2", nil, false, api.OK},
		{"a <x,...>", "a 1, 2", [][2]string{{"X", "1 , 2"}}, true, api.OK},
		{"a <x,...>", "a 1, 2,", nil, false, api.OK},
		{"a <x,...> b", "a 1, b", nil, false, api.OK},
		{"a <x>", "a", nil, false, api.OK},
		{"a", "", nil, false, api.OK},
		{"replace <x>", "repl 1", [][2]string{{"X", "1"}}, true, api.OK},
		{"a <x> to <y>", "a (b to c) to [to] + d", [][2]string{{"X", "( B TO C )"}, {"Y", "[ TO ] + D"}}, true, api.OK},
		{"a <x> [b <y>] [c <z>] d", "a 1 c 2 b 3 d", [][2]string{{"X", "1"}, {"Y", "3"}, {"Z", "2"}}, true, api.OK},
		{"a <x> [b <y>] [c <z>] d", "a 1 d", [][2]string{{"X", "1"}}, true, api.OK},
		{"a <x> [b <y>] [c <z>] d", "a 1 b 2 b 3 d", [][2]string{{"X", "1"}, {"Y", "2 B 3"}}, true, api.OK},
		{"a [b <y>] b", "a b", nil, false, api.OK},
		{"a <x:ON,OFF>", "a off", [][2]string{{"X", "OFF"}}, true, api.OK},
		{"a <x:ON,OFF>", "a of", nil, false, api.OK},
		{"a <x> <y:ON,OFF>", "a 1 on", [][2]string{{"X", "1"}, {"Y", "ON"}}, true, api.OK},
		{"a(<x>, <y>)", "a(1, (2, 3))", [][2]string{{"X", "1"}, {"Y", "( 2 , 3 )"}}, true, api.OK},
		{"a \\[<x>\\] \\< <y>", "a[1] < 2", [][2]string{{"X", "1"}, {"Y", "2"}}, true, api.OK},
		{"a<x>=<y>", "a 1 = * 2", [][2]string{{"X", "1"}, {"Y", "* 2"}}, true, api.OK},
		{"a <x>", "a 1 b\nc", nil, false, api.ErrSyntax}, {"a <x>", "~", nil, false, api.ErrSyntax}, {"<x>", "a", nil, false, api.ErrSyntax}, {"", "a", nil, false, api.ErrSyntax}, {"a\n", "a", nil, false, api.ErrSyntax},
		{"a <x>", "a 'x' {}", [][2]string{{"X", "\"x\" {}"}}, true, api.OK},
	} {
		got, ok, e := pre.Match(c.pattern, c.s)
		if !reflect.DeepEqual(got, c.want) || ok != c.ok || e != c.e {
			t.Errorf("Match %q %q: %v %v %d", c.pattern, c.s, got, ok, e)
		}
	}
}

func TestFill(t *testing.T) {
	x := [][2]string{{"X", "1 + 'a'"}, {"Y", ""}}
	for _, c := range []struct {
		result  string
		markers [][2]string
		want    string
		e       api.Errno
	}{
		{"? <x>", x, "? 1 + \"a\"", api.OK}, {"? <\"x\"> <.x.> <.y.> <\"y\">", x, "? '1 + \"a\"' .T. .F. \"\"", api.OK}, {"a [b <y>] [c <x>] [d]", x, "A C 1 + \"a\"", api.OK}, {"", nil, "", api.OK},
		{"< x > <z> <x,...> b", x, "< X > < X , . . . > B", api.OK}, {"\\[<y>\\]", x, "[ ]", api.OK}, {"a [", x, "", api.ErrSyntax}, {"a\nb", x, "", api.ErrSyntax}, {"a", [][2]string{{"X", "~"}, {"X", ""}}, "", api.ErrSyntax},
		{"a", [][2]string{{"X", "1"}, {"X", ""}}, "", api.ErrArg}, {"a", [][2]string{{"X", "1\n2"}}, "", api.ErrSyntax}, {"a", [][2]string{{"Q", "1"}}, "A", api.OK}, {"=> <x>", x, "= > 1 + \"a\"", api.OK},
	} {
		if got, e := pre.Fill(c.result, c.markers); got != c.want || e != c.e {
			t.Errorf("Fill %q: %q %d", c.result, got, e)
		}
	}
}

func TestDefined(t *testing.T) {
	l, e := pre.Defined("#define b\n#define a 1\n#define c\n#undef c\n#ifdef d\n#define e\n#endif")
	if !reflect.DeepEqual(l, []string{"A", "B"}) || e != api.OK {
		t.Error(l, e)
	}
}

func TestStandard(t *testing.T) {
	l := pre.Standard()
	for i, s := range []string{"say 1, 2 at 3", "finish with x", "advance by 2", "find 'x'", "erase where x > 1", "restore"} {
		if e := pre.Check(l[i]); e != api.OK {
			t.Errorf("Check %q: %d", l[i], e)
		}
		line, e := pre.Line(s, l)
		if _, _, e2 := tree.Parse(line); e != api.OK || e2 != api.OK || strings.EqualFold(line, s) {
			t.Errorf("%q: %q %d %d", s, line, e, e2)
		}
	}
}

// No text makes a function panic, and what Expand returns is written as lex.Join writes it.
func TestAnyText(t *testing.T) {
	parts := []string{"#define ", "#command ", "#translate ", "#ifdef ", "#ifndef ", "#else", "#endif", "#undef ", "\n", "\n", "\n", " ", "a", "b", "a", "<x>", "<y,...>", "<z:a,b>", "[", "]", "\\[", " => ", "=>", "<\"x\">", "<.x.>", "'", "\"", ",", "(", ")", ";", "&&", "*", "1", "{", "}", "<", ">", "#", "\x80"}
	expanded := 0
	for i := range 30000 {
		r := rand.New(rand.NewSource(int64(i)))
		s := ""
		for range 2 + r.Intn(20) {
			s += parts[r.Intn(len(parts))]
		}
		half := len(s) / 2
		pre.Line(s[:half], []string{s[half:]})
		pre.Match(s[:half], s[half:])
		pre.Fill(s[:half], [][2]string{{"X", s[half:]}})
		pre.Check(s)
		pre.Defined(s)
		out, e := pre.Expand(s)
		if e != api.OK {
			continue
		}
		l, _, _ := lex.Lex(out)
		if again, e := lex.Join(l); again != out || e != api.OK {
			t.Fatalf("%q: %q", s, out)
		}
		expanded++
	}
	if expanded < 1000 {
		t.Error(expanded)
	}
}
