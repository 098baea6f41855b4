package page_test

import (
	"strings"
	"testing"

	"cabinetry/api"
	"cabinetry/page"
)

var long = strings.Repeat("x", api.MaxText+1)

func allBytes() string {
	var b []byte
	for i := range 256 {
		b = append(b, byte(i))
	}
	return string(b)
}

// P2.1
func TestCommonErrors(t *testing.T) {
	for _, c := range []struct {
		s    string
		page int
		e    api.Errno
	}{{long, 9, api.ErrLarge}, {"a", 3, api.ErrArg}, {"a", -1, api.ErrArg}, {"a", 2, api.OK}} {
		_, e1 := page.Decode(c.s, c.page)
		_, _, e2 := page.Convert(c.s, c.page, 0, '?')
		_, e3 := page.Valid(c.s, c.page)
		_, e4 := page.Upper(c.s, c.page)
		_, e5 := page.Lower(c.s, c.page)
		_, e6 := page.Proper(c.s, c.page)
		_, e7 := page.Weights(c.s, c.page, 0)
		_, e8 := page.Order("", c.s, c.page, 0)
		_, e9 := page.Like("", c.s, c.page, 0)
		_, _, _, e10 := page.Count(c.s, c.page)
		_, e11 := page.Order(c.s, "", c.page, 0)
		_, e12 := page.Like(c.s, "", c.page, 0)
		for i, e := range []api.Errno{e1, e2, e3, e4, e5, e6, e7, e8, e9, e10, e11, e12} {
			if e != c.e {
				t.Errorf("function %d of %.5q page %d: %d, want %d", i+1, c.s, c.page, e, c.e)
			}
		}
	}
	_, e1 := page.Weights("a", 0, 2)
	_, e2 := page.Order("a", "a", 0, -1)
	_, e3 := page.Like("a", "a", 0, 2)
	_, _, e4 := page.Convert("a", 0, 3, 'a')
	if e1 != api.ErrArg || e2 != api.ErrArg || e3 != api.ErrArg || e4 != api.ErrArg {
		t.Error(e1, e2, e3, e4)
	}
	if _, e := page.Sound(long); e != api.ErrLarge {
		t.Error("Sound of a long text")
	}
}

func TestDecodeAndEncode(t *testing.T) {
	for p, want := range []int{0x80, 0x100, 0xC0} {
		all, count := allBytes(), 0
		for i := range 256 {
			one := all[i : i+1]
			u, e := page.Decode(one, p)
			if ok, _ := page.Valid(one, p); ok != (e == api.OK) {
				t.Errorf("Valid of %q on %d", one, p)
			}
			if e == api.ErrSyntax {
				continue
			}
			count++
			if back, e := page.Encode(u, p); back != one || e != api.OK {
				t.Errorf("Encode of Decode of %q on %d: %q %d", one, p, back, e)
			}
		}
		if count != want {
			t.Errorf("page %d has %d characters", p, count)
		}
	}
	for _, c := range []struct {
		utf, bytes string
		page       int
	}{{"А", "\x80", 2}, {"п", "\xAF", 2}, {"р", "\xE0", 2}, {"я", "\xEF", 2}, {"é", "\xE9", 1}, {"a\x00", "a\x00", 0}} {
		if u, e := page.Decode(c.bytes, c.page); u != c.utf || e != api.OK {
			t.Errorf("Decode %q: %q", c.bytes, u)
		}
	}
}

func TestEncodeErrors(t *testing.T) {
	for _, c := range []struct {
		s    string
		page int
		e    api.Errno
	}{
		{"\xff", 1, api.ErrSyntax}, {"€\xff", 1, api.ErrSyntax}, {"é", 0, api.ErrFit}, {"é", 2, api.ErrFit}, {"Ё", 2, api.ErrFit}, {"\u0430€", 2, api.ErrFit},
		{strings.Repeat("a", 3*api.MaxText+1), 9, api.ErrLarge}, {long, 1, api.ErrLarge}, {long + "€", 1, api.ErrFit}, {"a", 3, api.ErrArg},
		{strings.Repeat("é", api.MaxText), 1, api.OK}, {strings.Repeat("é", api.MaxText+1), 1, api.ErrLarge},
	} {
		if s, e := page.Encode(c.s, c.page); e != c.e || e != api.OK && s != "" {
			t.Errorf("Encode %.9q on %d: %d, want %d", c.s, c.page, e, c.e)
		}
	}
}

func TestConvert(t *testing.T) {
	for _, c := range []struct {
		s        string
		from, to int
		want     string
		missed   int
	}{
		{"a\xE9b", 1, 0, "a?b", 1}, {"a\xE9", 1, 2, "a?", 1}, {"a\x80\xC0", 2, 1, "a??", 2}, {"\x80\xEF", 2, 2, "\x80\xEF", 0}, {"\x80", 0, 1, "?", 1}, {"", 0, 1, "", 0}, {"\xC0", 2, 2, "?", 1},
	} {
		if s, n, e := page.Convert(c.s, c.from, c.to, '?'); s != c.want || n != c.missed || e != api.OK {
			t.Errorf("Convert %q: %q %d %d", c.s, s, n, e)
		}
	}
}

// P2.2
func TestLetters(t *testing.T) {
	for _, c := range []struct {
		capital, small string
		page           int
	}{
		{"AZ", "az", 0}, {"AZ\xC0\xD6\xD8\xDE", "az\xE0\xF6\xF8\xFE", 1}, {"A\x80\x8F\x90\x9F", "a\xA0\xAF\xE0\xEF", 2}, {"\xD7\xF7\xDF\xFF[`{@", "\xD7\xF7\xDF\xFF[`{@", 1}, {"\xC0\xE0", "\xC0\xE0", 0},
	} {
		if s, e := page.Upper(c.small, c.page); s != c.capital && c.page != 0 || e != api.OK {
			t.Errorf("Upper %q: %q", c.small, s)
		}
		if s, e := page.Lower(c.capital, c.page); s != c.small || e != api.OK {
			t.Errorf("Lower %q: %q", c.capital, s)
		}
	}
	if s, _ := page.Upper("\xE4", 1); s != "\xC4" {
		t.Errorf("Upper E4 on page 1: %q", s)
	}
	if s, _ := page.Upper("\xE4", 2); s != "\x94" {
		t.Errorf("Upper E4 on page 2: %q", s)
	}
	if s, _ := page.Proper("hELLO wORLD o'nEIL 2ab \xE9\xC9", 1); s != "Hello World O'Neil 2Ab \xC9\xE9" {
		t.Errorf("Proper: %q", s)
	}
	if a, b, c, e := page.Count("ab1 \xE9\xD7", 1); a != 3 || b != 1 || c != 2 || e != api.OK {
		t.Error("Count", a, b, c)
	}
	if a, b, c, _ := page.Count("ab1 \xE9\xD7", 0); a != 2 || b != 1 || c != 3 {
		t.Error("Count", a, b, c)
	}
}

func TestWeights(t *testing.T) {
	for _, c := range []struct {
		s, want    string
		page, coll int
	}{
		{"aZ1", "aZ1", 0, 0}, {"aZ1\xE9", "AZ1\xE9", 0, 1}, {"\xE9e", "EE", 1, 1}, {"\xC5\xC6\xC7\xCB\xCF\xD0\xD1\xD6\xD7\xD8\xDC\xDD\xDE\xDF\xFF", "A\xC6CEI\xD0NO\xD7\xD8UY\xDE\xDF\xFF", 1, 1},
		{"\xE6\xF7\xF0\xFD", "\xC6\xF7\xD0Y", 1, 1}, {"\xE4\xA0", "\x94\x80", 2, 1}, {"\xE9", "\xE9", 1, 0},
	} {
		if s, e := page.Weights(c.s, c.page, c.coll); s != c.want || e != api.OK {
			t.Errorf("Weights %q: %q", c.s, s)
		}
	}
	for _, c := range []struct {
		s, t       string
		page, coll int
		want       int
	}{{"a", "B", 0, 0, 1}, {"a", "B", 0, 1, -1}, {"ab", "AB", 0, 1, 0}, {"ab", "abc", 0, 0, -1}, {"\xE9", "f", 1, 1, -1}, {"\xE9", "f", 1, 0, 1}} {
		if n, e := page.Order(c.s, c.t, c.page, c.coll); n != c.want || e != api.OK {
			t.Errorf("Order %q %q: %d", c.s, c.t, n)
		}
	}
}

// P2.3
func TestLike(t *testing.T) {
	for _, c := range []struct {
		pattern, s string
		page, coll int
		want       bool
	}{
		{"", "", 0, 0, true}, {"", "a", 0, 0, false}, {"*", "", 0, 0, true}, {"**", "ab", 0, 0, true}, {"a*b", "ab", 0, 0, true}, {"a*b", "axxb", 0, 0, true}, {"a*b", "axxbc", 0, 0, false},
		{"a?c", "abc", 0, 0, true}, {"a?c", "ac", 0, 0, false}, {"*aab", "aaaab", 0, 0, true}, {"*a*b*", "xaxxbx", 0, 0, true}, {"a", "A", 0, 0, false}, {"a", "A", 0, 1, true}, {"\xE9?", "Ex", 1, 1, true},
		{"?", "*", 0, 0, true}, {"ab", "a*", 0, 0, false}, {"*?", "", 0, 0, false},
		{strings.Repeat("*a", 1000) + "b", strings.Repeat("a", 2000), 0, 0, false},
	} {
		if ok, e := page.Like(c.pattern, c.s, c.page, c.coll); ok != c.want || e != api.OK {
			t.Errorf("Like %.20q %.20q: %v", c.pattern, c.s, ok)
		}
	}
}

func TestSound(t *testing.T) {
	for s, want := range map[string]string{
		"Tymczak": "T522", "Pfister": "P236", "Robert": "R163", "Rupert": "R163", "Ashcraft": "A261", "Honeyman": "H555", "": "", "123 ": "", "a": "A000",
		"o'hara": "O600", "Jackson": "J250", "Hb": "H100", "BwB": "B000", "BaB": "B100", "B-B": "B000", "bbbbcdlmr": "B234", "\xC9a": "A000", "Wz": "W200",
	} {
		if got, e := page.Sound(s); got != want || e != api.OK {
			t.Errorf("Sound %q: %q, want %q", s, got, want)
		}
	}
}
