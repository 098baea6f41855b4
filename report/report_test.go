package report_test

import (
	"fmt"
	"math/rand"
	"reflect"
	"slices"
	"strings"
	"testing"

	"cabinetry/api"
	"cabinetry/report"
)

func num(n int) api.Value     { return api.Value{Kind: api.Num, N: n} }
func text(s string) api.Value { return api.Value{Kind: api.Text, S: s} }

// numbers has G and N (0: Nil); a negative G is gone.
func numbers(l ...[2]int) api.Table {
	t := api.Table{Fields: []api.Field{{Name: "G", Kind: api.Num, Width: 4}, {Name: "N", Kind: api.Num, Width: 4, Null: true}, {Name: "C", Kind: api.Text, Width: 5}}}
	for i, p := range l {
		r := api.Record{Gone: p[0] < 0, V: []api.Value{num(max(p[0], -p[0])), num(p[1]), text(string(rune('a' + i%26)))}}
		if p[1] == 0 {
			r.V[1] = api.Value{}
		}
		t.Recs = append(t.Recs, r)
	}
	return t
}

func band(kind, group int, x ...string) api.Band {
	b := api.Band{Kind: kind, Group: group, X: x}
	for i := range x {
		b.At = append(b.At, 10*i)
	}
	return b
}

// pages are the lines of pages, empty ones as dots, blanks in a line as one.
func pages(t *testing.T, tab api.Table, length int, groups []string, l ...api.Band) string {
	t.Helper()
	p, e := report.Print(tab, 40, length, groups, l)
	if e != api.OK {
		t.Fatal(e)
	}
	var out []string
	for _, page := range p {
		if len(page) != length {
			t.Error("a page of", len(page), "lines")
		}
		var lines []string
		for _, line := range page {
			if line == "" {
				line = "."
			}
			lines = append(lines, strings.Join(strings.Fields(line), " "))
		}
		out = append(out, strings.Join(lines, ","))
	}
	return strings.Join(out, " | ")
}

// P27.1
func TestValidate(t *testing.T) {
	many := make([]api.Band, 41)
	for i, c := range []struct {
		width, length int
		groups        []string
		l             []api.Band
		e             api.Errno
	}{
		{10, 3, nil, nil, api.OK}, {9, 3, []string{"("}, nil, api.ErrArg}, {201, 3, nil, nil, api.ErrArg}, {10, 2, nil, nil, api.ErrArg}, {10, 61, nil, nil, api.ErrArg}, {200, 60, make([]string, 5), nil, api.ErrLarge}, {200, 60, []string{"("}, many, api.ErrLarge}, {200, 60, []string{"("}, []api.Band{{Kind: 9}}, api.ErrSyntax}, {10, 3, nil, many[:40], api.OK},
		{10, 3, nil, []api.Band{{Kind: -1}}, api.ErrArg}, {10, 3, nil, []api.Band{{Kind: 7}}, api.ErrArg}, {10, 3, []string{"g"}, []api.Band{{Kind: 2, Group: 1}}, api.ErrArg}, {10, 3, nil, []api.Band{{Kind: 2}}, api.ErrArg}, {10, 3, []string{"g"}, []api.Band{{Kind: 4, Group: -1}}, api.ErrArg}, {10, 3, []string{"g", "g"}, []api.Band{{Kind: 3, Group: 1}}, api.ErrArg}, {10, 3, []string{"g", "g"}, []api.Band{{Kind: 4, Group: 1}}, api.OK},
		{10, 3, nil, []api.Band{{At: []int{10}}}, api.ErrArg}, {10, 3, nil, []api.Band{{At: []int{-1}}}, api.ErrArg}, {10, 3, nil, []api.Band{{At: []int{3, 3}}}, api.ErrArg}, {10, 3, nil, []api.Band{{At: []int{3, 2}}}, api.ErrArg}, {10, 3, nil, []api.Band{{At: []int{3}}, {Kind: 9}}, api.ErrFit}, {10, 3, nil, []api.Band{{At: []int{0, 9}, X: []string{"1", "("}}}, api.ErrSyntax}, {10, 3, nil, []api.Band{{X: []string{"1"}}}, api.ErrFit},
		{10, 3, nil, []api.Band{{Kind: 1}, {Kind: 5}}, api.OK}, {10, 3, nil, []api.Band{{Kind: 1}, {Kind: 5}, {Kind: 1}}, api.ErrFit}, {10, 3, nil, []api.Band{{Kind: 1}, {Kind: 5}, {Kind: 1}, {X: []string{"("}, At: []int{0}}}, api.ErrSyntax},
	} {
		_, e := report.Print(numbers(), c.width, c.length, c.groups, c.l)
		if v := report.Validate(c.width, c.length, c.groups, c.l); v != c.e || e != c.e {
			t.Errorf("case %d: %d %d, want %d", i, v, e, c.e)
		}
	}
	_, e1 := report.Print(api.Table{}, 10, 3, nil, nil)
	_, e2 := report.Print(api.Table{}, 10, 3, []string{"("}, nil)
	if e1 != api.ErrArg || e2 != api.ErrSyntax {
		t.Error(e1, e2)
	}
}

func TestPrint(t *testing.T) {
	three := numbers([2]int{1, 5}, [2]int{1, 0}, [2]int{-9, 9}, [2]int{2, 7})
	g := []string{"g"}
	detail, summary := band(3, 0, "c"), band(6, 0, "'S'", "row", "s_n", "c")
	head, foot := band(1, 0, "'H'", "page", "row", "c"), band(5, 0, "'F'", "page", "row", "c")
	for i, c := range []struct {
		t      api.Table
		length int
		groups []string
		l      []api.Band
		want   string
	}{
		{numbers(), 3, nil, []api.Band{band(6, 0, "row")}, "0,.,."},
		{numbers(), 3, nil, nil, ".,.,."},
		{numbers(), 3, nil, []api.Band{head, foot, detail}, "H 1 0,.,F 1 0"},
		{three, 3, nil, []api.Band{head, foot}, "H 1 0 a,.,F 1 3 d"},
		{three, 4, nil, []api.Band{detail}, "a,b,d,."},
		{three, 3, nil, []api.Band{detail, summary}, "a,b,d | S 3 12 d,.,."},
		{three, 3, nil, []api.Band{head, foot, detail, summary}, "H 1 0 a,a,F 1 1 a | H 2 1 b,b,F 2 2 b | H 3 2 d,d,F 3 3 d | H 4 3,S 3 12 d,F 4 3 d"},
		{three, 9, g, []api.Band{band(2, 0, "'<'", "row", "s_n", "c"), band(4, 0, "'>'", "row", "s_n", "c"), detail}, "< 0 0 a,a,b,> 2 5 b,< 0 0 d,d,> 1 7 d,.,."},
		{three, 12, []string{"g", "n"}, []api.Band{band(2, 0, "'G'", "g"), band(2, 1, "'N'", "n"), band(4, 0, "'g'", "g"), band(4, 1, "'n'", "n"), detail}, "G 1,N 5,a,n 5,N,b,n,g 1,G 2,N 7,d,n 7 | g 2,.,.,.,.,.,.,.,.,.,.,."},
		{three, 4, nil, []api.Band{band(0, 0, "'T'", "c", "row", "page"), head, foot, detail}, "T a 0 1,H 1 0 a,a,F 1 1 a | H 2 1 b,b,d,F 2 3 d"},
		{three, 3, nil, []api.Band{band(0, 0, "'T'"), head, foot, detail}, "T,.,F 1 0 | H 2 0 a,a,F 2 1 a | H 3 1 b,b,F 3 2 b | H 4 2 d,d,F 4 3 d"},
		{numbers(), 4, nil, []api.Band{band(0, 0, "'T'", "recno()"), head}, "T 0,.,.,."},
		{three, 3, nil, []api.Band{band(0, 0, "'T'"), band(0, 0, "'U'"), head, foot, band(6, 0, "'S'")}, "T,U,F 1 3 d | H 2 3,S,F 2 3 d"},
		{three, 3, nil, []api.Band{band(0, 0, "'T'"), band(0, 0, "'U'"), band(0, 0, "'V'"), head, foot}, "T,U,F 1 0 | V,.,F 2 3 d"},
		// A group head does not stand alone at the end of a page.
		{three, 4, g, []api.Band{band(2, 0, "'<'", "g"), detail}, "< 1,a,b,. | < 2,d,.,."},
		{three, 4, g, []api.Band{band(2, 0, "'<'", "g")}, "< 1,< 2,.,."},
		{three, 3, g, []api.Band{band(2, 0, "'<'", "g"), band(2, 0, "'='"), band(2, 0, "'*'"), detail}, "< 1,=,* | a,b,. | < 2,=,* | d,.,."},
		{three, 3, g, []api.Band{band(2, 0, "'<'", "g"), band(2, 0, "'='")}, "< 1,=,. | < 2,=,."},
		{three, 3, g, []api.Band{band(4, 0, "'>'", "g"), detail}, "a,b,> 1 | d,> 2,."},
		{three, 3, []string{"x"}, []api.Band{band(2, 0, "'<'"), detail}, "<,a,b | d,.,."},
		{three, 3, nil, []api.Band{detail, band(3, 0, "c + '2'")}, "a,a2,b | b2,d,d2"},
	} {
		if got := pages(t, c.t, c.length, c.groups, c.l...); got != c.want {
			t.Errorf("case %d: %s, want %s", i, got, c.want)
		}
	}
}

// The heads of a page are made when its first line is put that is neither one of them nor a title: behind the titles.
func TestTitles(t *testing.T) {
	two := numbers([2]int{1, 5}, [2]int{2, 7})
	titles := func(s string) []api.Band {
		var l []api.Band
		for i := range len(s) {
			l = append(l, band(0, 0, "'"+s[i:i+1]+"'"))
		}
		return l
	}
	g := []string{"g"}
	head, foot, detail, group := band(1, 0, "'H'", "page", "row", "c"), band(5, 0, "'F'", "row", "c"), band(3, 0, "c"), band(2, 0, "'<'", "g")
	for i, c := range []struct {
		t      api.Table
		length int
		groups []string
		titles string
		l      []api.Band
		want   string
	}{
		{numbers(), 3, nil, "T", nil, "T,.,."}, {numbers(), 3, nil, "T", []api.Band{head, foot}, "T,.,F 0"}, {two, 3, nil, "T", []api.Band{head, foot}, "T,.,F 2 b"}, {numbers(), 3, nil, "", []api.Band{head, foot}, "H 1 0,.,F 0"},
		{numbers(), 3, nil, "T", []api.Band{head, band(6, 0, "'S'")}, "T,H 1 0,S"}, {numbers(), 3, nil, "TU", []api.Band{head, band(6, 0, "'S'")}, "T,U,. | H 2 0,S,."}, {numbers(), 3, nil, "TUVW", []api.Band{head, band(6, 0, "'S'")}, "T,U,V | W,H 2 0,S"},
		{two, 3, nil, "T", []api.Band{head, detail}, "T,H 1 0 a,a | H 2 1 b,b,."}, {two, 3, nil, "TU", []api.Band{head, detail}, "T,U,. | H 2 0 a,a,b"}, {two, 3, nil, "TUV", []api.Band{head, detail}, "T,U,V | H 2 0 a,a,b"}, {two, 3, nil, "TUVW", []api.Band{head, detail}, "T,U,V | W,H 2 0 a,a | H 3 1 b,b,."}, {two, 3, nil, "TUVWX", []api.Band{head, detail}, "T,U,V | W,X,. | H 3 0 a,a,b"},
		{two, 3, nil, "TUV", []api.Band{foot, detail}, "T,U,F 0 | V,a,F 1 a | b,.,F 2 b"}, {two, 3, nil, "TU", []api.Band{detail}, "T,U,a | b,.,."}, {two, 4, nil, "T", []api.Band{head, band(1, 0, "'K'"), detail}, "T,H 1 0 a,K,a | H 2 1 b,K,b,."}, {two, 4, nil, "TU", []api.Band{head, band(1, 0, "'K'"), detail}, "T,U,.,. | H 2 0 a,K,a,b"},
		// The heads of groups go to the next page with the line that does not fit behind them, or by themselves.
		{two, 4, g, "T", []api.Band{head, group, detail}, "T,H 1 0 a,< 1,a | H 2 1 b,< 2,b,."}, {two, 4, g, "TU", []api.Band{head, group, detail}, "T,U,.,. | H 2 0 a,< 1,a,. | H 3 1 b,< 2,b,."}, {two, 4, g, "TU", []api.Band{head, group}, "T,U,H 1 0 a,< 1 | H 2 1 b,< 2,.,."}, {two, 4, g, "TUV", []api.Band{head, group}, "T,U,V,. | H 2 0 a,< 1,< 2,."},
		{two, 3, g, "T", []api.Band{head, group, band(2, 0, "'='"), band(2, 0, "'*'"), detail}, "T,.,. | H 2 0 a,< 1,= | H 3 0 a,*,a | H 4 1 b,< 2,= | H 5 1 b,*,b"},
	} {
		if got := pages(t, c.t, c.length, c.groups, append(titles(c.titles), c.l...)...); got != c.want {
			t.Errorf("case %d: %s, want %s", i, got, c.want)
		}
	}
}

// firsts are the first bytes of lines; dots for those without one.
func firsts(l []string) string {
	out := ""
	for _, s := range l {
		out += (s + ".")[:1]
	}
	return out
}

// Without groups and with one detail band each record has one line; sums of a group's feet make that of the summary.
func TestAnyReport(t *testing.T) {
	for seed := range 300 {
		r := rand.New(rand.NewSource(int64(seed)))
		var l [][2]int
		want := 0
		var liveOnes []string
		for i := range r.Intn(30) {
			p := [2]int{1 + r.Intn(3), r.Intn(9)}
			if r.Intn(5) == 0 {
				p[0] = -p[0]
			} else {
				want += p[1]
				liveOnes = append(liveOnes, string(rune('a'+i%26)))
			}
			l = append(l, p)
		}
		tab := numbers(l...)
		length := 4 + r.Intn(6)
		bands := []api.Band{band(3, 0, "'D'", "c"), band(2, 0, "'<'"), band(4, 0, "'>'", "s_n"), band(6, 0, "'S'", "s_n", "row")}
		if r.Intn(2) == 0 {
			bands = append(bands, band(1, 0, "'H'"), band(5, 0, "'F'"))
		}
		heads := len(bands) > 4
		for range r.Intn(6) {
			bands = append(bands, band(0, 0, "'T'"))
		}
		p, e := report.Print(tab, 40, length, []string{"g"}, bands)
		if e != api.OK {
			t.Fatal(e)
		}
		feet, details := 0, []string{}
		for _, page := range p {
			if len(page) != length {
				t.Fatal("length")
			}
			if lines := strings.TrimLeft(firsts(page), "T"); heads && strings.Trim(lines, ".F") != "" && (lines[0] != 'H' || strings.ContainsAny(lines[1:], "HT")) {
				t.Fatal("heads", seed, page)
			}
			for i, line := range page {
				f := strings.Fields(line)
				if len(f) == 0 {
					continue
				}
				n := 0
				if len(f) > 1 {
					fmt.Sscan(f[1], &n)
				}
				switch f[0] {
				case "D":
					details = append(details, f[1])
				case ">":
					feet += n
				case "S":
					if n != want || f[2] != fmt.Sprint(len(liveOnes)) {
						t.Fatal("summary", line, want)
					}
				case "<":
					if i+1 == length || strings.HasPrefix(page[i+1], "F") || page[i+1] == "" {
						t.Fatal("a head is the last line", seed, page)
					}
				}
			}
		}
		if feet != want || !slices.Equal(details, liveOnes) && len(liveOnes) > 0 {
			t.Fatal(seed, feet, want, details)
		}
	}
}

// P27.2
func TestLine(t *testing.T) {
	tab := numbers([2]int{1, 5}, [2]int{-2, 0})
	tab.Recs[0].V[2] = text("abcde")
	for _, c := range []struct {
		k, width int
		b        api.Band
		want     string
		e        api.Errno
	}{
		{1, 10, api.Band{Kind: 3, At: []int{0, 3}, X: []string{"c", "g"}}, "abc1", api.OK}, {1, 10, api.Band{Kind: 3, At: []int{7}, X: []string{"c"}}, "       abc", api.OK}, {2, 40, band(3, 0, "n", "recno()", "deleted()", "s_n"), "          2         .T.       0", api.OK}, {1, 40, band(4, 3, "page", "row", "s_n", "s_g"), "1         1         5         1", api.OK}, {1, 40, band(3, 0, "x", "1 / 0", "' '"), "?         ?", api.OK}, {1, 40, band(3, 0, "c = 'abc'"), ".F.", api.OK}, {1, 40, api.Band{}, "", api.OK},
		{0, 40, api.Band{Kind: 9}, "", api.ErrNone}, {3, 40, api.Band{}, "", api.ErrNone}, {1, 9, api.Band{}, "", api.ErrArg}, {1, 40, api.Band{Kind: 2, Group: 4}, "", api.ErrArg}, {1, 40, api.Band{At: []int{1}}, "", api.ErrFit}, {1, 40, band(0, 0, "("), "", api.ErrSyntax},
	} {
		if s, e := report.Line(tab, c.k, c.width, c.b); s != c.want || e != c.e {
			t.Errorf("Line %v: %q %d", c.b, s, e)
		}
	}
	if _, e := report.Line(api.Table{}, 0, 0, api.Band{}); e != api.ErrArg {
		t.Error(e)
	}
	own := api.Table{Fields: []api.Field{{Name: "PAGE", Kind: api.Num, Width: 4}, {Name: "S_PAGE", Kind: api.Num, Width: 4}}, Recs: []api.Record{{V: []api.Value{num(77), num(88)}}}}
	if s, _ := report.Line(own, 1, 40, band(3, 0, "page", "s_page")); s != "77        88" {
		t.Error("fields come first", s)
	}
	big := api.Table{Fields: []api.Field{{Name: "A", Kind: api.Num, Width: 15}}}
	for range 3 {
		big.Recs = append(big.Recs, api.Record{V: []api.Value{num(999999999999999)}})
	}
	if got := pages(t, big, 5, nil, band(6, 0, "s_a", "'x'")); got != "? x,.,.,.,." {
		t.Error("a sum that is too great", got)
	}
}

func TestBreaksAndSums(t *testing.T) {
	tab := numbers([2]int{1, 5}, [2]int{1, 0}, [2]int{-9, 9}, [2]int{2, 7}, [2]int{2, 3}, [2]int{1, 3})
	if l, e := report.Breaks(tab, []string{"g", "n > 4"}); !reflect.DeepEqual(l, [][2]int{{1, 0}, {2, 1}, {4, 0}, {5, 1}, {6, 0}}) || e != api.OK {
		t.Error(l, e)
	}
	if l, e := report.Breaks(tab, nil); len(l) != 0 || e != api.OK {
		t.Error(l, e)
	}
	if l, e := report.Breaks(tab, []string{"1 / (g - 1)"}); !reflect.DeepEqual(l, [][2]int{{1, 0}, {4, 0}, {6, 0}}) || e != api.OK {
		t.Error("a die is Nil", l, e)
	}
	_, e1 := report.Breaks(api.Table{}, []string{"("})
	_, e2 := report.Breaks(tab, []string{"(", "1", "1", "1", "1"})
	_, e3 := report.Breaks(tab, []string{"1", "1", "1", "1", "1"})
	if e1 != api.ErrArg || e2 != api.ErrSyntax || e3 != api.ErrLarge {
		t.Error(e1, e2, e3)
	}
	values, sums, e := report.Sums(tab, "g", "N")
	if !slices.Equal(values, []api.Value{num(1), num(2), num(1)}) || !slices.Equal(sums, []int{5, 10, 3}) || e != api.OK {
		t.Error(values, sums, e)
	}
	for _, c := range []struct {
		group, field string
		e            api.Errno
	}{{"(", "X", api.ErrSyntax}, {"g", "X", api.ErrNone}, {"g", "C", api.ErrType}} {
		if _, _, e := report.Sums(tab, c.group, c.field); e != c.e {
			t.Error(c, e)
		}
	}
}

// P27.3
func TestLabels(t *testing.T) {
	tab := numbers([2]int{1, 5}, [2]int{2, 0}, [2]int{-9, 9}, [2]int{3, 7})
	l, e := report.Labels(tab, []string{"c + 'long'", "n"}, 2, 3)
	if !slices.Equal(l, []string{"alo blo", "5", "", "dlo", "7", ""}) || e != api.OK {
		t.Errorf("%q %d", l, e)
	}
	if l, _ := report.Labels(tab, []string{"x", "page"}, 5, 2); !slices.Equal(l, []string{"?  ?  ?", "?  ?  ?", ""}) {
		t.Errorf("%q", l)
	}
	if l, e := report.Labels(numbers(), []string{"1"}, 1, 1); len(l) != 0 || e != api.OK {
		t.Error(l, e)
	}
	for i, c := range []struct {
		t            api.Table
		lines        []string
		across, wide int
		e            api.Errno
	}{{api.Table{}, []string{"("}, 1, 1, api.ErrArg}, {tab, nil, 1, 1, api.ErrArg}, {tab, make([]string, 21), 1, 1, api.ErrArg}, {tab, []string{"("}, 0, 1, api.ErrArg}, {tab, []string{"("}, 6, 1, api.ErrArg}, {tab, []string{"("}, 1, 0, api.ErrArg}, {tab, []string{"("}, 1, 201, api.ErrArg}, {tab, []string{"("}, 1, 1, api.ErrSyntax}, {tab, []string{"1"}, 5, 200, api.OK}} {
		if _, e := report.Labels(c.t, c.lines, c.across, c.wide); e != c.e {
			t.Errorf("Labels %d: %d", i, e)
		}
	}
}

func TestColumnsAndNumber(t *testing.T) {
	tab := api.Table{Fields: []api.Field{{Name: "A", Kind: api.Text, Width: 100}, {Name: "LONGNAME", Kind: api.Num, Width: 3}, {Name: "M", Kind: api.Memo, Width: 8}, {Name: "Z", Kind: api.Text, Width: 81}, {Name: "Y", Kind: api.Truth, Width: 1}}}
	l, e := report.Columns(tab)
	want := []api.Band{{Kind: 1, At: []int{0, 101, 110, 119}, X: []string{"\"A\"", "\"LONGNAME\"", "\"M\"", "\"Z\""}}, {Kind: 3, At: []int{0, 101, 110, 119}, X: []string{"A", "LONGNAME", "M", "Z"}}}
	if !reflect.DeepEqual(l, want) || e != api.OK {
		t.Error(l, e)
	}
	if e := report.Validate(200, 60, nil, l); e != api.OK {
		t.Error(e)
	}
	tab.Fields[3].Width = 82
	if l, _ := report.Columns(tab); len(l[0].At) != 3 {
		t.Error("what does not fit", l[0].At)
	}
	if _, e := report.Columns(api.Table{}); e != api.ErrArg {
		t.Error(e)
	}
	if l := report.Number([][]string{{"a", ""}, {"b"}}); !slices.Equal(l, []string{"1: a", "1: ", "2: b"}) {
		t.Errorf("%q", l)
	}
}
