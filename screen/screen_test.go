package screen_test

import (
	"fmt"
	"slices"
	"strings"
	"testing"

	"cabinetry/api"
	"cabinetry/screen"
)

func num(n int) api.Value     { return api.Value{Kind: api.Num, N: n} }
func text(s string) api.Value { return api.Value{Kind: api.Text, S: s} }

func get(name, picture string, v api.Value) api.Get {
	return api.Get{Name: name, Picture: picture, Value: v}
}

// keys reads keys: characters, and signs for the others.
func keys(s string) []int {
	signs := map[rune]int{'⏎': 1, '↑': 2, '↓': 3, '←': 4, '→': 5, '⌫': 6, '⌦': 7, '⎋': 8, '⇤': 9, '⇥': 10, '⎀': 11}
	var l []int
	for _, r := range s {
		if k, ok := signs[r]; ok {
			l = append(l, k)
		} else {
			l = append(l, int(r))
		}
	}
	return l
}

// P26.1
func TestValidate(t *testing.T) {
	long := strings.Repeat("x", 2049)
	ok := get("A", "X", text(""))
	many := make([]api.Get, 17)
	for i, c := range []struct {
		l []api.Get
		e api.Errno
	}{
		{nil, api.OK}, {[]api.Get{ok}, api.OK}, {many, api.ErrLarge}, {many[:16], api.ErrArg}, {[]api.Get{{}, {When: long}}, api.ErrLarge}, {[]api.Get{{Name: "a", Value: text(long)}}, api.ErrLarge}, {[]api.Get{get("a", "X", text(""))}, api.ErrArg}, {[]api.Get{get("A", "", text(""))}, api.ErrArg}, {[]api.Get{get("A", strings.Repeat("X", 40), text(""))}, api.OK}, {[]api.Get{get("A", strings.Repeat("X", 41), text(""))}, api.ErrArg},
		{[]api.Get{get("A", "abc", text(""))}, api.ErrArg}, {[]api.Get{get("A", "X\x1f", text(""))}, api.ErrArg}, {[]api.Get{get("A", "X\x7f", text(""))}, api.ErrArg}, {[]api.Get{get("A", "X", api.Value{})}, api.ErrArg}, {[]api.Get{get("A", "X", api.Value{Kind: api.Date})}, api.ErrArg}, {[]api.Get{get("A", "X", num(1))}, api.ErrArg}, {[]api.Get{get("A", "9-9", num(1))}, api.OK}, {[]api.Get{get("A", strings.Repeat("9", 15), num(1))}, api.OK}, {[]api.Get{get("A", strings.Repeat("9", 16), num(1))}, api.ErrArg}, {[]api.Get{get("A", "9", api.Value{Kind: api.Num, N: 1, S: "x"})}, api.ErrArg},
		{[]api.Get{ok, ok}, api.ErrTwice}, {[]api.Get{ok, ok, {Name: "B", Picture: "X", Value: text(""), When: "("}}, api.ErrTwice}, {[]api.Get{{Name: "B", Picture: "X", Value: text(""), When: "("}}, api.ErrSyntax}, {[]api.Get{{Name: "B", Picture: "X", Value: text(""), Valid: " "}}, api.ErrSyntax},
	} {
		if e := screen.Validate(c.l); e != c.e {
			t.Errorf("Validate %d: %d, want %d", i, e, c.e)
		}
		_, e1 := screen.Layout(c.l, 5)
		_, _, _, _, e2 := screen.Read(c.l, nil)
		if c.e != api.OK && (e1 != c.e || e2 != c.e) {
			t.Errorf("functions %d: %d %d", i, e1, e2)
		}
		if len(c.l) != 1 {
			continue
		}
		_, e3 := screen.Show(c.l[0])
		_, _, e4 := screen.Edit(c.l[0], nil)
		_, e5 := screen.Value(c.l[0], "")
		if e3 != c.e || e4 != c.e || c.e != api.OK && e5 != c.e || c.e == api.OK && e5 != api.ErrFit {
			t.Errorf("functions %d: %d %d %d", i, e3, e4, e5)
		}
	}
}

func TestShowAndValue(t *testing.T) {
	for _, c := range []struct {
		picture string
		v       api.Value
		want    string
		back    api.Value
	}{
		{"!!-99", text("ab1"), "AB-1 ", text("AB1")}, {"999", num(0), "  0", num(0)}, {"9-9/9", num(12), " -1/2", num(12)}, {"99", num(100), "  ", num(0)}, {"99", num(-1), "  ", num(0)}, {"99", num(99), "99", num(99)}, {"XX", text("abc"), "ab", text("ab")}, {"A9NX!", text("1a-\x80z"), "    Z", text("    Z")}, {"A9NX!", text("a1b-é"), "a1b- ", text("a1b-")}, {"(X)", text(" "), "( )", text("")}, {"XXX", text(" a"), " a ", text(" a")},
	} {
		g := get("A", c.picture, c.v)
		s, e := screen.Show(g)
		if s != c.want || e != api.OK {
			t.Errorf("Show %q: %q %d", c.picture, s, e)
		}
		if v, e := screen.Value(g, s); v != c.back || e != api.OK {
			t.Errorf("Value %q: %v %d", s, v, e)
		}
	}
	for _, c := range []struct{ picture, s string }{{"9-9", "1-"}, {"9-9", "1-22"}, {"9-9", "1+2"}, {"9-9", ""}} {
		if _, e := screen.Value(get("A", c.picture, num(1)), c.s); e != api.ErrFit {
			t.Errorf("Value %q: %d", c.s, e)
		}
	}
	if v, e := screen.Value(get("A", "9 9 9", num(1)), "1   2"); v != num(12) || e != api.OK {
		t.Error(v, e)
	}
}

func TestTakes(t *testing.T) {
	for _, c := range []struct {
		place byte
		key   int
		want  byte
		ok    bool
	}{{'9', '5', '5', true}, {'9', 'a', 0, false}, {'9', ' ', 0, false}, {'A', 'z', 'z', true}, {'A', '1', 0, false}, {'N', '1', '1', true}, {'N', 'Q', 'Q', true}, {'N', '-', 0, false}, {'X', ' ', ' ', true}, {'X', '~', '~', true}, {'!', 'a', 'A', true}, {'!', '-', '-', true}, {'X', 0x1F, 0, false}, {'X', 0x7F, 0, false}, {'X', 300, 0, false}, {'X', -1, 0, false}, {'!', 1, 0, false}, {'-', '-', 0, false}, {0, 'a', 0, false}} {
		if b, ok := screen.Takes(c.place, c.key); b != c.want || ok != c.ok {
			t.Errorf("Takes %q %d: %q %v", c.place, c.key, b, ok)
		}
	}
}

// P26.2
func TestEdit(t *testing.T) {
	for _, c := range []struct {
		picture string
		v       api.Value
		keys    string
		want    string
		at      int
	}{
		{"999", num(0), "12", "120", 2}, {"XXX", text("abc"), "", "abc", 0}, {"XXX", text("abc"), "xyz!", "xy!", 2}, {"X", text("a"), "bc", "c", 0}, {"(X-X)", text("ab"), "c", "(c-b)", 3}, {"(X-X)", text("ab"), "→→→", "(a-b)", 3}, {"(X-X)", text("ab"), "→←←", "(a-b)", 1}, {"XXX", text("abc"), "⇥⇤", "abc", 0}, {"XXX", text("abc"), "⇥", "abc", 2}, {"999", num(123), "a", "123", 0},
		{"XXX", text("abc"), "⌦", "bc ", 0}, {"XXX", text("abc"), "→⌫", "bc ", 0}, {"XXX", text("abc"), "⌫", "abc", 0}, {"XXX", text("abc"), "⇥⌦", "ab ", 2}, {"999", num(12), "→⌦", " 2 ", 1}, {"999", num(12), "⇥⌦⇤⌦", " 1 ", 0}, {"999", num(2), "⌦", "  2", 0}, {"999", num(100), "→⌦", "10 ", 1}, {"9X", text("1a"), "⌦", " a", 0}, {"9X9", text("1a2"), "→⌦", "12 ", 1},
		{"XXX", text("ab"), "⎀x", "xab", 1}, {"XXX", text("abc"), "⎀xy", "xya", 2}, {"XXX", text("abc"), "⎀⎀x", "xbc", 1}, {"999", num(123), "⎀9", "912", 1}, {"999", num(1), "⎀9", "  1", 0}, {"9X9", text("1a2"), "⎀7", "1a2", 0}, {"X!", text("aB"), "⎀q", "qA", 1}, {"!X", text("Ab"), "⌦", "B ", 0}, {"XX", text("ab"), "⏎↑↓⎋q", "qb", 1}, {"XX", text("ab"), "\x0c\x00\x7f", "ab", 0},
	} {
		s, at, e := screen.Edit(get("A", c.picture, c.v), keys(c.keys))
		if s != c.want || at != c.at || e != api.OK {
			t.Errorf("Edit %q %q: %q %d %d, want %q %d", c.picture, c.keys, s, at, e, c.want, c.at)
		}
	}
}

func TestRead(t *testing.T) {
	a := get("A", "999", num(0))
	b := api.Get{Name: "B", Picture: "XX", Value: text("bb"), When: "a > 5"}
	c := api.Get{Name: "C", Picture: "XX", Value: text("cc"), Valid: "c <> 'no'"}
	dying := api.Get{Name: "D", Picture: "X", Value: text("d"), When: "1 / 0 = 1"}
	for _, x := range []struct {
		l       []api.Get
		keys    string
		values  string
		at      int
		entered string
		escaped bool
	}{
		{[]api.Get{a}, "12⏎", "120", -1, "0", false}, {[]api.Get{a}, "12", "120", 0, "0", false}, {[]api.Get{a}, "12⎋", "0", -1, "0", true}, {[]api.Get{a}, "12⏎34", "120", -1, "0", false}, {nil, "12", "", -1, "", false}, {[]api.Get{dying}, "x", "d", -1, "", false}, {[]api.Get{dying, a}, "1", "d 10", 1, "1", false},
		{[]api.Get{a, b, c}, "⏎x", "0 bb xc", 2, "0 2", false}, {[]api.Get{a, b, c}, "  ⇥6⏎x", "6 xb cc", 1, "0 1", false}, {[]api.Get{a, b, c}, "⇥6↓x↓y⎋", "6 xb cc", -1, "0 1 2", true}, {[]api.Get{a, c}, "↓no⏎⏎", "0 no", 1, "0 1", false}, {[]api.Get{a, c}, "↓no↓↑⎋", "0 cc", -1, "0 1", true}, {[]api.Get{a, c}, "↓x↓", "0 xc", 1, "0 1", false}, {[]api.Get{a, c}, "↓x⏎", "0 xc", -1, "0 1", false}, {[]api.Get{a, c}, "↓x↑7", "70 xc", 0, "0 1 0", false},
		{[]api.Get{a, c}, "↑7", "70 cc", 0, "0", false}, {[]api.Get{a, b, c}, "⇥6↓↓↑↑⇥1⏎z", "1 bb zc", 2, "0 1 2 1 0 2", false}, {[]api.Get{a, c}, "↓x↓⎋", "0 cc", -1, "0 1", true}, {[]api.Get{c, c2("E")}, "⎀x↓y", "xc ye", 1, "0 1", false}, {[]api.Get{{Name: "A", Picture: "X", Value: text("a"), Valid: "b = 'b'"}, {Name: "B", Picture: "X", Value: text("x")}}, "⏎", "a x", 0, "0", false},
	} {
		values, at, entered, escaped, e := screen.Read(x.l, keys(x.keys))
		var l []string
		for _, v := range values {
			if v.Kind == api.Num {
				l = append(l, fmt.Sprint(v.N))
			} else {
				l = append(l, v.S)
			}
		}
		if got := strings.Join(l, " "); got != x.values || at != x.at || strings.Trim(fmt.Sprint(entered), "[]") != x.entered || escaped != x.escaped || e != api.OK {
			t.Errorf("Read %q: %q %d %v %v %d, want %q %d %s", x.keys, got, at, entered, escaped, e, x.values, x.at, x.entered)
		}
	}
	if _, _, _, _, e := screen.Read([]api.Get{a}, make([]int, 1001)); e != api.ErrLarge {
		t.Error(e)
	}
	if _, _, _, _, e := screen.Read([]api.Get{{}}, make([]int, 1001)); e != api.ErrArg {
		t.Error(e)
	}
	if a.Value != num(0) {
		t.Error("an argument was changed")
	}
}

func c2(name string) api.Get { return get(name, "XX", text("ee")) }

// P26.3
func TestTransform(t *testing.T) {
	for _, c := range []struct {
		s, picture, want string
		e                api.Errno
	}{{"ab1", "!!-99", "AB-1 ", api.OK}, {"ab", "abc", "abc", api.OK}, {"", "XX", "  ", api.OK}, {strings.Repeat("x", 2049), "", "", api.ErrLarge}, {"", strings.Repeat("x", 2049), "", api.ErrLarge}, {"", "", "", api.ErrArg}, {"", strings.Repeat("X", 41), "", api.ErrArg}, {"", "X\x00", "", api.ErrArg}} {
		if s, e := screen.Transform(c.s, c.picture); s != c.want || e != c.e {
			t.Errorf("Transform %.9q %.9q: %q %d", c.s, c.picture, s, e)
		}
	}
}

func TestMenu(t *testing.T) {
	items, on := []string{"open", "Save", "copy", "cut", "1st"}, []bool{true, true, false, true, true}
	for _, c := range []struct {
		at    int
		keys  string
		want  int
		ended bool
	}{
		{0, "", 0, false}, {2, "", 3, false}, {0, "↓", 1, false}, {0, "→→", 3, false}, {0, "↑", 4, false}, {1, "←←", 4, false}, {0, "⇥↓", 0, false}, {3, "⇤", 0, false}, {0, "⇥", 4, false}, {0, "c", 3, false}, {3, "C", 3, false}, {0, "s", 1, false}, {0, "z", 0, false}, {0, "1", 4, false}, {0, "↓⏎↓", 1, true}, {0, "↓⎋", -1, false}, {0, "⌫⎀", 0, false},
	} {
		if i, ended, e := screen.Menu(items, on, c.at, keys(c.keys)); i != c.want || ended != c.ended || e != api.OK {
			t.Errorf("Menu %d %q: %d %v %d", c.at, c.keys, i, ended, e)
		}
	}
	if i, _, _ := screen.Menu([]string{"a", "b"}, []bool{true, false}, 1, keys("↓↑")); i != 0 {
		t.Error("round and round", i)
	}
	for i, c := range []struct {
		items []string
		on    []bool
		at    int
		e     api.Errno
	}{{nil, []bool{true}, 9, api.ErrArg}, {make([]string, 201), nil, 0, api.ErrArg}, {[]string{""}, nil, 0, api.ErrArg}, {[]string{strings.Repeat("x", 201)}, nil, 0, api.ErrArg}, {items, nil, 9, api.ErrFit}, {items, on, 5, api.ErrArg}, {items, on, -1, api.ErrArg}, {items, make([]bool, 5), 0, api.ErrState}, {[]string{strings.Repeat("x", 200)}, []bool{true}, 0, api.OK}} {
		if k, ended, e := screen.Menu(c.items, c.on, c.at, keys("⏎")); e != c.e || e != api.OK && (k != 0 || ended) {
			t.Errorf("Menu %d: %d", i, e)
		}
	}
}

func TestBrowse(t *testing.T) {
	rows := []int{10, 20, 30, 40, 50, 60, 70}
	for _, c := range []struct {
		keys  string
		row   int
		shown []int
	}{
		{"", 10, rows[:3]}, {"↓", 20, rows[:3]}, {"↓↓↓", 40, rows[1:4]}, {"↓↓↓↑↑", 20, rows[1:4]}, {"↓↓↓↑↑↑", 10, rows[:3]}, {"↑", 10, rows[:3]}, {"→", 40, rows[3:6]}, {"↓→", 50, rows[3:6]}, {"→→", 70, rows[6:7]}, {"↓↓→→", 70, rows[6:7]}, {"→→→", 70, rows[6:7]}, {"→→←", 40, rows[3:6]}, {"→←←", 10, rows[:3]}, {"↓↓↓←", 30, rows[:3]}, {"⇥", 70, rows[4:7]}, {"⇥⇤", 10, rows[:3]}, {"→→⇥", 70, rows[6:7]}, {"⇥↓", 70, rows[4:7]}, {"⇥→", 70, rows[4:7]}, {"⇥↑→", 70, rows[4:7]}, {"⏎⎋x⌦", 10, rows[:3]}, {"←", 10, rows[:3]},
	} {
		if row, shown, e := screen.Browse(rows, 3, keys(c.keys)); row != c.row || !slices.Equal(shown, c.shown) || e != api.OK {
			t.Errorf("Browse %q: %d %v %d, want %d %v", c.keys, row, shown, e, c.row, c.shown)
		}
	}
	if row, shown, e := screen.Browse(nil, 25, keys("↓→⇥")); row != 0 || len(shown) != 0 || e != api.OK {
		t.Error(row, shown, e)
	}
	if row, shown, _ := screen.Browse(rows[:2], 5, keys("→")); row != 20 || len(shown) != 2 {
		t.Error(row, shown)
	}
	big := make([]int, 301)
	for i := range big {
		big[i] = i
	}
	for i, c := range []struct {
		rows []int
		page int
		e    api.Errno
	}{{rows, 0, api.ErrArg}, {rows, 26, api.ErrArg}, {[]int{2, 2}, 3, api.ErrArg}, {[]int{3, 2}, 3, api.ErrArg}, {big, 3, api.ErrArg}, {big[:300], 3, api.OK}, {[]int{-5, 9}, 1, api.OK}} {
		if _, _, e := screen.Browse(c.rows, c.page, nil); e != c.e {
			t.Errorf("Browse %d: %d", i, e)
		}
	}
}

func TestLayout(t *testing.T) {
	l, e := screen.Layout([]api.Get{get("A", "999", num(5)), get("LONGER", "XX-XX", text("abcd"))}, 10)
	if !slices.Equal(l, []string{"A        5", "LONGER ab-"}) || e != api.OK {
		t.Errorf("%q %d", l, e)
	}
	for width, want := range map[int]api.Errno{9: api.ErrArg, 201: api.ErrArg, 200: api.OK} {
		if _, e := screen.Layout(nil, width); e != want {
			t.Error(width, e)
		}
	}
}
