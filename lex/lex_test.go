package lex_test

import (
	"math/rand"
	"reflect"
	"strings"
	"testing"

	"cabinetry/api"
	"cabinetry/lex"
)

// show writes tokens as a letter of the kind, the text, and the place.
func show(l []api.Token) string {
	var out []string
	for _, t := range l {
		out = append(out, "WNSDGE"[t.Kind:t.Kind+1]+t.Text)
	}
	return strings.Join(out, " ")
}

// P5.1
func TestTokens(t *testing.T) {
	for s, want := range map[string]string{
		"":                              "",
		"  \n\t\n":                      "",
		"x = 1 ; && a\n+ 2":             "WX G= N1 G+ N2 E",
		"ab_1 _c 12ab":                  "WAB_1 W_C N12 WAB E",
		"\"a'b\" 'a\"b' ''":             "Sa'b Sa\"b S E",
		"{^2024-02-29}{}":               "D20240229 D E",
		"{^2024-02-30}":                 "G{ G^ N2024 G- N02 G- N30 G} E",
		"{ }":                           "G{ G} E",
		"{^0000-01-01}":                 "G{ G^ N0000 G- N01 G- N01 G} E",
		"{^2024-02-2":                   "G{ G^ N2024 G- N02 G- N2 E",
		"()[]{},|:.":                    "G( G) G[ G] D G, G| G: G. E",
		":= := = == <> # != < > <= >=":  "G:= G:= G= G== G<> G# G!= G< G> G<= G>= E",
		"===<>=->->=a<-b":               "G== G= G<> G= G-> G-> G= WA G< G- WB E",
		"+ - * / % ^ $ & -> ? @ !":      "G+ G- G* G/ G% G^ G$ G& G-> G? G@ G! E",
		".t. .F. .Null. .and. .OR.":     "G.T. G.F. G.NULL. G.AND. G.OR. E",
		".not.x .notx .t":               "G.NOT. WX G. WNOTX G. WT E",
		"a.T.b.and.c":                   "WA G.T. WB G.AND. WC E",
		"* comment ; \n x && c \n * c":  "WX E",
		"x && a ; b\ny":                 "WX E WY E",
		"x ;\n * 2\n*c\ny":              "WX G* N2 E WY E",
		" ;\n* c\nx":                    "WX E",
		"x;\n;\ny":                      "WX WY E",
		"x ;":                           "WX E",
		"x ;\n":                         "WX E",
		"x ;\n\ny":                      "WX E WY E",
		"\"&& ;\" ; && a \" b\n && c\n": "S&& ; E",
		"x && ; a\n":                    "WX E",
		"? 1\n\n\n? 2":                  "G? N1 E G? N2 E",
		strings.Repeat("a", 24):         "W" + strings.Repeat("A", 24) + " E",
		"007 123456789012345":           "N007 N123456789012345 E",
	} {
		l, n, e := lex.Lex(s)
		if got := show(l); got != want || n != len(l) || e != api.OK {
			t.Errorf("Lex %q: %s (%d), want %s", s, got, e, want)
		}
	}
}

func TestPlaces(t *testing.T) {
	l, _, _ := lex.Lex("ab ;\n {} 'x'\n\n 7")
	var at []int
	for _, x := range l {
		at = append(at, x.At)
	}
	if !reflect.DeepEqual(at, []int{0, 6, 9, 12, 15, 16}) {
		t.Error(at)
	}
}

func TestLexErrors(t *testing.T) {
	for _, c := range []struct {
		s     string
		place int
		e     api.Errno
	}{
		{"a ~", 2, api.ErrSyntax}, {"a ; b", 2, api.ErrSyntax}, {"a ; * c\n", 2, api.ErrSyntax}, {"\\", 0, api.ErrSyntax}, {"a\r\n", 1, api.ErrSyntax}, {"`", 0, api.ErrSyntax},
		{"x 'abc", 2, api.ErrSyntax}, {"x 'abc\n'", 2, api.ErrSyntax}, {"x \"a'", 2, api.ErrSyntax}, {"x 'a\x01b' ~", 4, api.ErrSyntax}, {"x 'a\x01b", 2, api.ErrSyntax}, {"'\x7f'", 1, api.ErrSyntax},
		{"x && a\x80", 6, api.ErrSyntax}, {"* a\x80\n~", 3, api.ErrSyntax}, {"a ;\x01\n", 2, api.ErrSyntax}, {"a ; &&\x01\n", 6, api.ErrSyntax},
		{"b " + strings.Repeat("a", 25), 2, api.ErrSyntax}, {"b 1234567890123456", 2, api.ErrSyntax}, {strings.Repeat("?", 1300) + "~", 1300, api.ErrSyntax},
		{strings.Repeat("~", 4001), 0, api.ErrLarge}, {strings.Repeat("?", 1200), 0, api.ErrLarge},
	} {
		if l, n, e := lex.Lex(c.s); l != nil || n != c.place || e != c.e {
			t.Errorf("Lex %.20q: %d %d, want %d %d", c.s, n, e, c.place, c.e)
		}
		_, e1 := lex.Lines(c.s)
		_, _, e2 := lex.Where(c.s, -1)
		a, b, e3 := lex.Stuff(c.s, -1, 0, "")
		_, _, e4 := lex.Stuff("", 0, 0, c.s)
		if e1 != c.e || e2 != c.e || e3 != c.e || e4 != c.e || a+b != 0 {
			t.Errorf("functions with %.20q: %d %d %d %d", c.s, e1, e2, e3, e4)
		}
	}
	if _, n, e := lex.Lex(strings.Repeat("?", 1199)); n != 1200 || e != api.OK {
		t.Error("the most tokens", n, e)
	}
	if _, _, e := lex.Lex(strings.Repeat(" ", 4000)); e != api.OK {
		t.Error("the most bytes", e)
	}
}

// P5.2
func TestJoin(t *testing.T) {
	for s, want := range map[string]string{
		"": "", "a+b\n\nc": "A + B\nC\n", "'x' 'a\"' {^2024-01-02}{}": "\"x\" 'a\"' {^2024-01-02} {}\n", "a ;\n b": "A B\n", ".t.": ".T.\n", "{ }": "{ }\n",
	} {
		l, _, _ := lex.Lex(s)
		if got, e := lex.Join(l); got != want || e != api.OK {
			t.Errorf("Join of %q: %q %d", s, got, e)
		}
	}
	end := api.Token{Kind: api.KEnd}
	for _, c := range []struct {
		l []api.Token
		e api.Errno
	}{
		{[]api.Token{{Kind: api.KWord, Text: "A"}}, api.ErrArg}, {[]api.Token{{Kind: api.KWord, Text: "a"}, end}, api.ErrArg}, {[]api.Token{{Kind: api.KWord, Text: "A B"}, end}, api.ErrArg},
		{[]api.Token{end}, api.ErrArg}, {[]api.Token{{Kind: api.KStr, Text: "\"'x"}, end}, api.ErrSyntax}, {[]api.Token{{Kind: api.KStr, Text: "a\nb"}, end}, api.ErrSyntax},
		{[]api.Token{{Kind: api.KDate, Text: "20240230"}, end}, api.ErrArg}, {[]api.Token{{Kind: api.KDate, Text: "1"}, end}, api.ErrArg}, {[]api.Token{{Kind: api.KSign, Text: "*"}, end}, api.ErrArg},
		{[]api.Token{{Kind: api.KSign, Text: "~"}, end}, api.ErrSyntax}, {[]api.Token{{Kind: 9, Text: "A"}, end}, api.ErrArg}, {[]api.Token{{Kind: api.KStr, Text: strings.Repeat("x", 4000)}, end}, api.ErrLarge},
		{[]api.Token{{Kind: api.KWord, Text: "A", At: 99}, {Kind: api.KEnd, At: -1}}, api.OK}, {[]api.Token{{Kind: api.KWord, Text: "A"}, {Kind: api.KEnd, Text: "x"}}, api.ErrArg},
	} {
		if s, e := lex.Join(c.l); e != c.e || e != api.OK && s != "" {
			t.Errorf("Join %.60v: %q %d, want %d", c.l, s, e, c.e)
		}
	}
}

func TestJoinOfLex(t *testing.T) {
	r := rand.New(rand.NewSource(5))
	parts := []string{"a", " ", "\n", "1", "'x'", "\"y'\"", "{^2024-01-01}", "{}", "{", "}", "^", "*", "&", "&&", ";", ";\n", ".", "T", ".T.", "-", ">", "=", "<", ":", "!", ".and.", "|", "2024", "-01"}
	for range 5000 {
		s := ""
		for range r.Intn(12) {
			s += parts[r.Intn(len(parts))]
		}
		l, _, e := lex.Lex(s)
		if e != api.OK {
			continue
		}
		j, e := lex.Join(l)
		back, _, e2 := lex.Lex(j)
		if e != api.OK || e2 != api.OK || !lex.Same(l, back) {
			t.Fatalf("%q: %q %d %d", s, j, e, e2)
		}
	}
}

func TestLines(t *testing.T) {
	if l, e := lex.Lines("a=1\n\n* c\n b ;\n+2"); !reflect.DeepEqual(l, []string{"A = 1", "B + 2"}) || e != api.OK {
		t.Error("Lines", l, e)
	}
	if l, e := lex.Lines(""); len(l) != 0 || e != api.OK {
		t.Error("Lines of nothing", l, e)
	}
}

// P5.3
func TestFull(t *testing.T) {
	words := []string{"RETURN", "REPLACE", "REPL", "IF", "REPEAT"}
	for _, c := range []struct {
		word, want string
		ok         bool
	}{
		{"repl", "REPL", true}, {"repla", "REPLACE", true}, {"if", "IF", true}, {"re", "", false}, {"ret", "", false}, {"retu", "RETURN", true}, {"repe", "REPEAT", true}, {"replaces", "", false}, {"", "", false},
	} {
		if s, ok := lex.Full(c.word, words); s != c.want || ok != c.ok {
			t.Errorf("Full %q: %q %v", c.word, s, ok)
		}
	}
	if s, ok := lex.Full("dele", []string{"DELETED", "DELETE"}); s != "DELETED" || !ok {
		t.Error("the first one", s)
	}
}

func TestIsName(t *testing.T) {
	for s, want := range map[string]bool{"A": true, "_": true, "A_9": true, "ABCDEFGHIJ": true, "ABCDEFGHIJK": false, "": false, "9A": false, "a": false, "A B": false, "A-": false} {
		if lex.IsName(s) != want {
			t.Errorf("IsName %q", s)
		}
	}
}

func TestSame(t *testing.T) {
	a := []api.Token{{Kind: api.KWord, Text: "A", At: 1}}
	b := []api.Token{{Kind: api.KWord, Text: "A", At: 2}}
	if !lex.Same(a, b) || !lex.Same(nil, []api.Token{}) || lex.Same(a, nil) || lex.Same(a, []api.Token{{Kind: api.KStr, Text: "A"}}) || lex.Same(a, []api.Token{{Text: "B"}}) {
		t.Error("Same")
	}
}

func TestWhere(t *testing.T) {
	s := "ab\n\nc"
	for place, want := range [][2]int{{1, 1}, {1, 2}, {1, 3}, {2, 1}, {3, 1}, {3, 2}} {
		if l, c, e := lex.Where(s, place); [2]int{l, c} != want || e != api.OK {
			t.Errorf("Where %d: %d %d", place, l, c)
		}
	}
	for _, place := range []int{-1, 6} {
		if _, _, e := lex.Where(s, place); e != api.ErrArg {
			t.Error("Where", place, e)
		}
	}
	if l, c, _ := lex.Where("a\n", 2); l != 2 || c != 1 {
		t.Error("behind the last line feed", l, c)
	}
}

func TestStuff(t *testing.T) {
	for _, c := range []struct {
		s          string
		from, to   int
		by         string
		begin, end int
		e          api.Errno
	}{
		{"a + b", 2, 3, "-", 1, 2, api.OK}, {"a a a", 1, 1, " a", 3, 1, api.OK}, {"a a a", 0, 2, "", 2, 1, api.OK}, {"a b", 0, 3, "a b", 3, 0, api.OK}, {"", 0, 0, "a", 0, 0, api.OK}, {"x", 0, 1, "", 0, 0, api.OK},
		{"ab", 1, 1, " ", 0, 1, api.OK}, {"a", 0, 2, "", 0, 0, api.ErrArg}, {"a", -1, 0, "", 0, 0, api.ErrArg}, {"abc", 2, 1, "", 0, 0, api.ErrArg}, {"a", 0, 0, "'", 0, 0, api.ErrSyntax}, {"a", 0, 0, strings.Repeat(" ", 4000), 0, 0, api.ErrLarge},
	} {
		if b, n, e := lex.Stuff(c.s, c.from, c.to, c.by); b != c.begin || n != c.end || e != c.e {
			t.Errorf("Stuff %q: %d %d %d", c.s, b, n, e)
		}
	}
}
