package val_test

import (
	"math"
	"strings"
	"testing"
	"time"

	"cabinetry/api"
	"cabinetry/val"
)

func truth(n int) api.Value   { return api.Value{Kind: api.Truth, N: n} }
func num(n int) api.Value     { return api.Value{Kind: api.Num, N: n} }
func date(n int) api.Value    { return api.Value{Kind: api.Date, N: n} }
func text(s string) api.Value { return api.Value{Kind: api.Text, S: s} }

var long = strings.Repeat("x", api.MaxText+1)
var full = strings.Repeat("x", api.MaxText)

// P1.1
func TestValidate(t *testing.T) {
	for _, c := range []struct {
		v api.Value
		e api.Errno
	}{
		{api.Value{}, api.OK},
		{truth(0), api.OK}, {truth(1), api.OK}, {truth(2), api.ErrArg}, {truth(-1), api.ErrArg},
		{num(api.MaxNum), api.OK}, {num(-api.MaxNum), api.OK}, {num(api.MaxNum + 1), api.ErrArg}, {num(-api.MaxNum - 1), api.ErrArg},
		{date(0), api.OK}, {date(api.MaxDate), api.OK}, {date(-1), api.ErrArg}, {date(api.MaxDate + 1), api.ErrArg},
		{text(""), api.OK}, {text(full), api.OK}, {text(long), api.ErrLarge}, {text("\x00\xff"), api.OK},
		{api.Value{N: 1}, api.ErrArg}, {api.Value{S: "a"}, api.ErrArg}, {api.Value{Kind: api.Num, S: "a"}, api.ErrArg},
		{api.Value{Kind: api.Text, N: 1}, api.ErrArg}, {api.Value{Kind: api.Memo}, api.ErrArg}, {api.Value{Kind: -1}, api.ErrArg},
		{api.Value{Kind: 77, S: long}, api.ErrLarge},
	} {
		if e := val.Validate(c.v); e != c.e {
			t.Errorf("Validate %.20v: %d, want %d", c.v, e, c.e)
		}
	}
}

func TestCompare(t *testing.T) {
	for _, c := range []struct {
		a, b api.Value
		want int
		e    api.Errno
	}{
		{truth(0), truth(1), -1, api.OK}, {num(2), num(2), 0, api.OK}, {num(3), num(-2), 1, api.OK},
		{date(0), date(1), -1, api.OK}, {text("ab"), text("abc"), -1, api.OK}, {text("b"), text("abc"), 1, api.OK}, {text("\xff"), text("a"), 1, api.OK},
		{api.Value{}, api.Value{}, 0, api.ErrType}, {num(1), date(1), 0, api.ErrType}, {num(1), text("1"), 0, api.ErrType},
		{truth(2), text(long), 0, api.ErrArg}, {text(long), truth(2), 0, api.ErrLarge}, {num(1), truth(2), 0, api.ErrArg},
	} {
		if got, e := val.Compare(c.a, c.b); got != c.want || e != c.e {
			t.Errorf("Compare %.20v %.20v: %d %d", c.a, c.b, got, e)
		}
	}
}

func TestEqual(t *testing.T) {
	for _, c := range []struct {
		a, b        string
		exact, near bool
	}{
		{"abc", "ab", false, true}, {"ab ", "ab", true, true}, {"ab", "ab  ", true, false}, {"", "", true, true},
		{"a", "", false, true}, {"", "  ", true, false}, {"ab", "b", false, false}, {" a", "a", false, false},
	} {
		if val.Equal(c.a, c.b, true) != c.exact || val.Equal(c.a, c.b, false) != c.near {
			t.Errorf("Equal %q %q", c.a, c.b)
		}
	}
}

// P1.2
func TestDo(t *testing.T) {
	none := api.Value{}
	for _, c := range []struct {
		op   int
		a, b api.Value
		want api.Value
		why  int
	}{
		{api.Add, num(2), num(3), num(5), 0},
		{api.Add, num(-api.MaxNum), num(-1), none, api.DieRange},
		{api.Add, date(5), num(3), date(8), 0}, {api.Add, num(3), date(5), date(8), 0}, {api.Add, date(5), num(-5), none, api.DieRange},
		{api.Add, date(api.MaxDate), num(1), none, api.DieRange}, {api.Add, num(3), date(0), date(0), 0}, {api.Add, date(1), date(1), none, api.DieType},
		{api.Add, text("a "), text("b"), text("a b"), 0}, {api.Add, text(full), text(""), text(full), 0}, {api.Add, text(full), text("b"), none, api.DieRange},
		{api.Add, truth(1), truth(1), none, api.DieType}, {api.Add, text("a"), num(1), none, api.DieType},
		{api.Sub, num(2), num(3), num(-1), 0}, {api.Sub, date(5), num(3), date(2), 0}, {api.Sub, num(9), date(3), none, api.DieType},
		{api.Sub, date(0), num(3), date(0), 0}, {api.Sub, date(5), num(5), none, api.DieRange},
		{api.Sub, date(5), date(9), num(-4), 0}, {api.Sub, date(5), date(0), num(0), 0}, {api.Sub, date(0), date(5), num(0), 0},
		{api.Sub, text("ab  "), text("c "), text("abc   "), 0}, {api.Sub, text("  "), text("c"), text("c  "), 0}, {api.Sub, text(full), text("c"), none, api.DieRange},
		{api.Mul, num(-4), num(3), num(-12), 0}, {api.Mul, num(api.MaxNum), num(-1), num(-api.MaxNum), 0}, {api.Mul, num(api.MaxNum), num(api.MaxNum), none, api.DieRange},
		{api.Mul, num(1 << 32), num(1 << 32), none, api.DieRange}, {api.Mul, date(1), num(1), none, api.DieType},
		{api.Div, num(7), num(-2), num(-3), 0}, {api.Div, num(-7), num(-2), num(3), 0}, {api.Div, num(7), num(0), none, api.DieZero}, {api.Div, text("a"), num(0), none, api.DieType},
		{api.Mod, num(7), num(-2), num(1), 0}, {api.Mod, num(-7), num(2), num(-1), 0}, {api.Mod, num(7), num(0), none, api.DieZero},
		{api.Pow, num(-3), num(3), num(-27), 0}, {api.Pow, num(10), num(15), num(api.MaxNum), 0}, {api.Pow, num(10), num(16), none, api.DieRange},
		{api.Pow, num(0), num(0), num(1), 0}, {api.Pow, num(0), num(5), num(0), 0}, {api.Pow, num(5), num(0), num(1), 0}, {api.Pow, num(1), num(-1), none, api.DieRange},
		{api.Pow, num(-1), num(api.MaxNum), num(1), 0}, {api.Pow, num(-1), num(api.MaxNum - 1), num(-1), 0}, {api.Pow, num(-2), num(api.MaxNum), none, api.DieRange},
		{api.Pow, num(2), text("a"), none, api.DieType},
		{api.Div, none, num(0), none, 0}, {api.Pow, text("a"), none, none, 0}, {api.Add, none, none, none, 0},
	} {
		got, why, e := val.Do(c.op, c.a, c.b)
		if got != c.want || why != c.why || e != api.OK {
			t.Errorf("Do %.40v: %.20v %d %d", c, got, why, e)
		}
	}
}

func TestDoErrors(t *testing.T) {
	for _, c := range []struct {
		op   int
		a, b api.Value
		e    api.Errno
	}{
		{-1, num(1), num(1), api.ErrArg}, {6, api.Value{}, num(1), api.ErrArg}, {math.MaxInt, num(1), num(1), api.ErrArg},
		{9, num(1), text(long), api.ErrLarge}, {api.Add, num(api.MaxNum + 1), text(long), api.ErrArg},
	} {
		if v, why, e := val.Do(c.op, c.a, c.b); v != (api.Value{}) || why != 0 || e != c.e {
			t.Errorf("Do %d: %d %d", c.op, why, e)
		}
	}
}

// P1.3
func TestStrAndVal(t *testing.T) {
	for _, c := range []struct {
		n, width int
		want     string
		e        api.Errno
	}{
		{-5, 4, "  -5", api.OK}, {12345, 5, "12345", api.OK}, {12345, 4, "****", api.OK}, {0, 1, "0", api.OK},
		{1, 0, "", api.ErrArg}, {1, api.MaxWidth + 1, "", api.ErrArg}, {api.MaxNum + 1, 30, "", api.ErrArg}, {math.MinInt, 30, "", api.ErrArg},
		{-api.MaxNum, 17, "-1000000000000000", api.OK},
	} {
		if s, e := val.Str(c.n, c.width); s != c.want || e != c.e {
			t.Errorf("Str %d %d: %q %d", c.n, c.width, s, e)
		}
	}
	for s, want := range map[string]int{
		"": 0, "12": 12, "  -12x": -12, "+7": 7, "- 5": 0, "+-5": 0, "x1": 0, "007": 7, "\t1": 0, "1 2": 1,
		"1000000000000000": api.MaxNum, "1000000000000001": api.MaxNum, "-99999999999999999999999999": -api.MaxNum,
		strings.Repeat("9", 5000): api.MaxNum, strings.Repeat(" ", 5000) + "3": 3,
	} {
		if n := val.Val(s); n != want {
			t.Errorf("Val %.30q: %d", s, n)
		}
	}
	for _, n := range []int{0, -1, 99, api.MaxNum, -api.MaxNum} {
		if s, _ := val.Str(n, 20); val.Val(s) != n {
			t.Errorf("Val of Str of %d", n)
		}
	}
}

func TestShow(t *testing.T) {
	for _, c := range []struct {
		v    api.Value
		want string
		e    api.Errno
	}{
		{api.Value{}, "NIL", api.OK}, {truth(1), ".T.", api.OK}, {truth(0), ".F.", api.OK}, {num(-12), "-12", api.OK}, {num(0), "0", api.OK},
		{date(0), "    -  -  ", api.OK}, {date(1), "0001-01-01", api.OK}, {date(api.MaxDate), "9999-12-31", api.OK}, {text(" a"), " a", api.OK},
		{truth(5), "", api.ErrArg}, {text(long), "", api.ErrLarge},
	} {
		if s, e := val.Show(c.v); s != c.want || e != c.e {
			t.Errorf("Show %.20v: %q %d", c.v, s, e)
		}
	}
}

// P1.4
func TestEveryDay(t *testing.T) {
	at := time.Date(1, 1, 1, 0, 0, 0, 0, time.UTC)
	for day := 1; day <= api.MaxDate; day++ {
		y, m, d := at.Date()
		gy, gm, gd, e := val.Split(day)
		back, e2 := val.Days(y, int(m), d)
		if gy != y || gm != int(m) || gd != d || back != day || e != api.OK || e2 != api.OK {
			t.Fatalf("day %d: %d %d %d, %d", day, gy, gm, gd, back)
		}
		if w, _ := val.Weekday(day); w != int(at.Weekday())+1 {
			t.Fatalf("weekday of %d: %d", day, w)
		}
		at = at.AddDate(0, 0, 1)
	}
}

func TestDateErrors(t *testing.T) {
	for _, c := range [][3]int{{0, 1, 1}, {10000, 1, 1}, {2023, 2, 29}, {1900, 2, 29}, {2024, 4, 31}, {2024, 0, 1}, {2024, 13, 1}, {2024, 1, 0}, {2024, 1, -1}, {math.MaxInt, 1, 1}} {
		if n, e := val.Days(c[0], c[1], c[2]); n != 0 || e != api.ErrArg {
			t.Errorf("Days %v: %d %d", c, n, e)
		}
	}
	if n, e := val.Days(2000, 2, 29); n == 0 || e != api.OK {
		t.Error("2000-02-29")
	}
	for _, day := range []int{-1, api.MaxDate + 1, math.MinInt} {
		_, _, _, e1 := val.Split(day)
		_, e2 := val.Weekday(day)
		_, e3 := val.Months(day, 0)
		_, e4 := val.Stamp(day)
		if e1 != api.ErrArg || e2 != api.ErrArg || e3 != api.ErrArg || e4 != api.ErrArg {
			t.Errorf("day %d: %d %d %d %d", day, e1, e2, e3, e4)
		}
	}
	y, m, d, e1 := val.Split(0)
	w, e2 := val.Weekday(0)
	if y+m+d+w != 0 || e1 != api.OK || e2 != api.OK {
		t.Error("the empty date")
	}
}

func TestMonths(t *testing.T) {
	days := func(y, m, d int) int {
		n, _ := val.Days(y, m, d)
		return n
	}
	for _, c := range []struct {
		day, n, want int
		e            api.Errno
	}{
		{days(2024, 1, 31), 1, days(2024, 2, 29), api.OK}, {days(2024, 3, 31), -1, days(2024, 2, 29), api.OK}, {days(2023, 12, 15), 1, days(2024, 1, 15), api.OK},
		{days(2024, 2, 29), 12, days(2025, 2, 28), api.OK}, {days(2024, 1, 1), -1, days(2023, 12, 1), api.OK}, {1, -1, 0, api.ErrArg}, {api.MaxDate, 1, 0, api.ErrArg},
		{1, 9999*12 - 1, days(9999, 12, 1), api.OK}, {api.MaxDate, -(9999*12 - 1), days(1, 1, 31), api.OK}, {5, math.MaxInt, 0, api.ErrArg}, {5, math.MinInt, 0, api.ErrArg},
		{0, math.MaxInt, 0, api.OK}, {5, 0, 5, api.OK},
	} {
		if got, e := val.Months(c.day, c.n); got != c.want || e != c.e {
			t.Errorf("Months %d %d: %d %d", c.day, c.n, got, e)
		}
	}
}

func TestStamps(t *testing.T) {
	for day, want := range map[int]string{0: "        ", 1: "00010101", api.MaxDate: "99991231"} {
		if s, e := val.Stamp(day); s != want || e != api.OK {
			t.Errorf("Stamp %d: %q", day, s)
		}
		if n, ok := val.Unstamp(want); n != day || !ok {
			t.Errorf("Unstamp %q: %d", want, n)
		}
	}
	for _, s := range []string{"", "2024013", "202401311", "20230229", "00000101", "2024-1-1", "  240101", "+0240101", "       "} {
		if n, ok := val.Unstamp(s); n != 0 || ok {
			t.Errorf("Unstamp %q", s)
		}
	}
}

// P1.5
func TestTexts(t *testing.T) {
	check := func(what, got string, e api.Errno, want string, wantE api.Errno) {
		t.Helper()
		if got != want || e != wantE {
			t.Errorf("%s: %.40q %d, want %.40q %d", what, got, e, want, wantE)
		}
	}
	for _, c := range []struct {
		s    string
		side int
		want string
		e    api.Errno
	}{
		{"  a b ", 0, "  a b", api.OK}, {"  a b ", 1, "a b ", api.OK}, {"  a b ", 2, "a b", api.OK}, {"\ta ", 2, "\ta", api.OK}, {"   ", 0, "", api.OK},
		{"a", 3, "", api.ErrArg}, {"a", -1, "", api.ErrArg}, {long, 9, "", api.ErrLarge},
	} {
		s, e := val.Trim(c.s, c.side)
		check("Trim", s, e, c.want, c.e)
	}
	for _, c := range []struct {
		s       string
		n, side int
		want    string
		e       api.Errno
	}{
		{"ab", 5, 0, "ab   ", api.OK}, {"ab", 5, 1, "   ab", api.OK}, {"ab", 5, 2, " ab  ", api.OK}, {"ab", 1, 1, "a", api.OK}, {"ab", 0, 2, "", api.OK},
		{"ab", -1, 0, "", api.ErrArg}, {"ab", api.MaxText + 1, 0, "", api.ErrArg}, {"ab", 5, 3, "", api.ErrArg}, {long, -1, 0, "", api.ErrLarge},
	} {
		s, e := val.Pad(c.s, c.n, c.side)
		check("Pad", s, e, c.want, c.e)
	}
	for _, c := range []struct {
		s       string
		from, n int
		want    string
	}{
		{"abcdef", 2, 3, "bcd"}, {"abcdef", -1, 2, "ab"}, {"abcdef", 5, 9, "ef"}, {"abcdef", 7, 1, ""}, {"abcdef", math.MaxInt, math.MaxInt, ""},
		{"abcdef", 2, -1, ""}, {"abcdef", math.MinInt, math.MinInt, ""}, {"abcdef", 1, math.MaxInt, "abcdef"},
	} {
		s, e := val.Part(c.s, c.from, c.n)
		check("Part", s, e, c.want, api.OK)
	}
	_, e := val.Part(long, 1, 1)
	check("Part", "", e, "", api.ErrLarge)
}

func TestPlacesAndChanges(t *testing.T) {
	for _, c := range []struct {
		t, s string
		want int
	}{{"b", "abab", 2}, {"", "a", 0}, {"c", "ab", 0}, {"ab", "ab", 1}, {"abc", "ab", 0}, {"y", long + "y", api.MaxText + 2}} {
		if n := val.At(c.t, c.s); n != c.want {
			t.Errorf("At %q: %d", c.t, n)
		}
	}
	for _, c := range []struct {
		s       string
		from, n int
		t       string
		want    string
		e       api.Errno
	}{
		{"abc", 2, 1, "xy", "axyc", api.OK}, {"abc", 9, 1, "x", "abcx", api.OK}, {"abc", -4, 1, "", "bc", api.OK}, {"abc", 2, -1, "x", "axbc", api.OK},
		{"abc", 1, math.MaxInt, "", "", api.OK}, {full, 1, 0, "y", "", api.ErrLarge}, {full, 1, 1, "x", full, api.OK}, {long, 1, 9, "", "", api.ErrLarge}, {"", 1, 0, long, "", api.ErrLarge},
	} {
		if s, e := val.Stuff(c.s, c.from, c.n, c.t); s != c.want || e != c.e {
			t.Errorf("Stuff %.10q: %.20q %d", c.s, s, e)
		}
	}
	for _, c := range []struct {
		s, a, b, want string
		e             api.Errno
	}{
		{"aaa", "aa", "b", "ba", api.OK}, {"abc", "", "x", "abc", api.OK}, {"aXa", "a", "aa", "aaXaa", api.OK}, {"abc", "b", "", "ac", api.OK},
		{full, "x", "xx", "", api.ErrLarge}, {full, "x", full, "", api.ErrLarge}, {long, "x", "", "", api.ErrLarge}, {"", long, "", "", api.ErrLarge}, {"", "", long, "", api.ErrLarge},
	} {
		if s, e := val.Swap(c.s, c.a, c.b); s != c.want || e != c.e {
			t.Errorf("Swap %.10q: %.20q %d", c.s, s, e)
		}
	}
}
