package fast_test

import (
	"math/rand"
	"slices"
	"strings"
	"testing"

	"cabinetry/api"
	"cabinetry/bag"
	"cabinetry/bits"
	"cabinetry/expr"
	"cabinetry/fast"
)

func num(n int) api.Value     { return api.Value{Kind: api.Num, N: n} }
func text(s string) api.Value { return api.Value{Kind: api.Text, S: s} }

func makeBag(t *testing.T, r *rand.Rand, n int, tags ...api.Tag) *bag.Bag {
	t.Helper()
	tab := api.Table{Page: 1, Fields: []api.Field{{Name: "NAME", Kind: api.Text, Width: 60, Null: true}, {Name: "AGE", Kind: api.Num, Width: 3, Null: true}, {Name: "OK", Kind: api.Truth, Width: 1}}}
	for range n {
		rec := api.Record{Gone: r.Intn(5) == 0, V: []api.Value{text([]string{"", "a", "ab", "abc", "AB", "b", "\xE9", strings.Repeat("x", 47), strings.Repeat("x", 48), strings.Repeat("x", 50)}[r.Intn(10)]), num(r.Intn(7)), {Kind: api.Truth, N: r.Intn(2)}}}
		if r.Intn(6) == 0 {
			rec.V[r.Intn(2)] = api.Value{}
		}
		tab.Recs = append(tab.Recs, rec)
	}
	b, e := bag.New(tab)
	if e != api.OK {
		t.Fatal(e)
	}
	for _, g := range tags {
		if e := b.Add(g); e != api.OK {
			t.Fatal(g, e)
		}
	}
	return b
}

var allTags = []api.Tag{
	{Name: "AGE", Key: "age"}, {Name: "NAME", Key: "name"}, {Name: "NAMEC", Key: "upper(name)", Coll: 1}, {Name: "DOWN", Key: "name", Down: true, Coll: 1},
	{Name: "MIX", Key: "if(age > 3, name, age)"}, {Name: "EX", Key: "name = 'a'"}, {Name: "PART", Key: "ok", For: "ok"}, {Name: "UNIQ", Key: "ok", Uniq: 1},
}

// moreTags have several tags of one key, those with other collations and directions first.
var moreTags = []api.Tag{
	{Name: "AGEC", Key: "age", Coll: 1, Down: true}, {Name: "NAMEC", Key: "name", Coll: 1}, {Name: "SOME", Key: "age", For: "ok"}, {Name: "AGED", Key: " age", Down: true},
	{Name: "NAMED", Key: "NAME", Down: true}, {Name: "AGE", Key: "age"}, {Name: "NAME", Key: "name"}, {Name: "OK", Key: "ok", Coll: 1},
}

// P13.1
func TestSlowAndFast(t *testing.T) {
	r := rand.New(rand.NewSource(1))
	b := makeBag(t, r, 0, allTags[0])
	for _, x := range []struct {
		name string
		age  int
	}{{"ab", 1}, {"b", 5}, {"abc", 9}, {"a", 4}} {
		b.Append(api.Record{V: []api.Value{text(x.name), num(x.age), {Kind: api.Truth}}})
	}
	for _, c := range []struct {
		cond  string
		exact bool
		want  []int
		why   int
	}{
		{"age > 3", false, []int{2, 3, 4}, 0}, {"age > 3 .and. age <= 5", false, []int{2, 4}, 0}, {".null.", false, nil, 0}, {".t.", false, []int{1, 2, 3, 4}, 0}, {"5", false, nil, 0}, {"name = 'ab'", false, []int{1, 3}, 0}, {"name = 'ab'", true, []int{1}, 0}, {"recno() = 2", false, []int{2}, 0},
		{"x", false, nil, api.DieName}, {"10 / (age - 9) > 0 .or. age", false, nil, api.DieType}, {"if(recno() = 2, 1 / 0, x)", false, nil, api.DieName}, {"if(recno() > 1, 1 / 0, 1)", false, nil, api.DieZero}, {"age = 'a'", false, nil, api.DieType},
	} {
		l, why, e := fast.Slow(b, c.cond, c.exact)
		if !slices.Equal(l, c.want) || why != c.why || e != api.OK {
			t.Errorf("Slow %s: %v %d %d", c.cond, l, why, e)
		}
		l, why, e = fast.Fast(b, c.cond, c.exact)
		if c.why == 0 && (!slices.Equal(l, c.want) || why != 0) || e != api.OK {
			t.Errorf("Fast %s: %v %d %d", c.cond, l, why, e)
		}
	}
}

func TestErrors(t *testing.T) {
	b := makeBag(t, rand.New(rand.NewSource(1)), 3)
	for _, c := range []struct {
		b    *bag.Bag
		cond string
		e    api.Errno
	}{{nil, "(", api.ErrState}, {b, "(", api.ErrSyntax}, {b, "", api.ErrSyntax}, {b, strings.Repeat("-", 14) + "1", api.ErrLarge}, {b, strings.Repeat(" ", 4001), api.ErrLarge}} {
		_, _, e1 := fast.Slow(c.b, c.cond, true)
		_, _, e2 := fast.Fast(c.b, c.cond, true)
		_, e3 := fast.Plan(c.b, c.cond, true)
		_, e4 := fast.Served(c.b, c.cond)
		_, e5 := fast.Asked(c.b, c.cond, true)
		_, _, e6 := fast.Best(c.b, c.cond, true)
		for i, e := range []api.Errno{e1, e2, e3, e4, e5, e6} {
			if e != c.e {
				t.Errorf("function %d with %.9q: %d", i, c.cond, e)
			}
		}
		if _, e := fast.Split(c.cond); c.b != nil && e != c.e {
			t.Errorf("Split %.9q: %d", c.cond, e)
		}
	}
}

func comparison(r *rand.Rand) string {
	pick := func(l ...string) string { return l[r.Intn(len(l))] }
	op := pick(" = ", " == ", " < ", " <= ", " > ", " >= ", " <> ")
	k := pick("age", "name", "upper(name)", "if(age > 3, name, age)", "(name = 'a')", "ok", "age + 1", "recno()")
	c := pick("3", "1 + 1", "'a'", "'ab'", "''", "'ab  '", ".t.", "'"+strings.Repeat("x", 47)+"'", "'"+strings.Repeat("x", 48)+"'", "'"+strings.Repeat("x", 49)+"'", ".null.", "1 / 0", "chr(233)")
	if strings.Contains(k, "age") && r.Intn(4) > 0 {
		c = pick("0", "2", "5", "7 - 9")
	}
	if r.Intn(4) == 0 {
		return c + op + k
	}
	return k + op + c
}

func condition(r *rand.Rand, depth int) string {
	if depth == 0 {
		if r.Intn(12) == 0 {
			return []string{"ok", "name", "age"}[r.Intn(3)]
		}
		return comparison(r)
	}
	switch r.Intn(6) {
	case 0, 1:
		return "(" + condition(r, depth-1) + ") .and. (" + condition(r, depth-1) + ")"
	case 2, 3:
		return "(" + condition(r, depth-1) + ") .or. (" + condition(r, depth-1) + ")"
	case 4:
		return ".not. (" + condition(r, depth-1) + ")"
	}
	return condition(r, depth-1)
}

// trueAt are the records for which a condition is true, and whether it dies for one.
func trueAt(b *bag.Bag, cond string, exact bool) ([]int, bool) {
	tab := b.Table()
	var l []int
	died := false
	for i, rec := range tab.Recs {
		v, why, _ := expr.Source(cond, api.Env{Names: []string{"NAME", "AGE", "OK"}, Vals: rec.V, Exact: exact, Page: 1, Rec: i + 1, Gone: rec.Gone})
		if v == (api.Value{Kind: api.Truth, N: 1}) {
			l = append(l, i+1)
		}
		died = died || why != 0
	}
	return l, died
}

// P13.1, P13.2: with tags a condition has the same records as without.
func TestAnyCondition(t *testing.T) {
	decided, undied := 0, 0
	for seed := range 3000 {
		r := rand.New(rand.NewSource(int64(seed)))
		b := makeBag(t, r, r.Intn(12), [][]api.Tag{allTags, moreTags}[seed%2]...)
		cond, exact := condition(r, r.Intn(4)), r.Intn(2) == 0
		want, died := trueAt(b, cond, exact)
		l, why, e := fast.Fast(b, cond, exact)
		if e != api.OK || !died && why != 0 || why == 0 && !slices.Equal(l, want) {
			t.Fatalf("seed %d: %s (exact %v): %v %d, want %v", seed, cond, exact, l, why, want)
		}
		if died && why != 0 {
			_, slow, _ := fast.Slow(b, cond, exact)
			if slow == 0 {
				t.Fatal("Slow", cond)
			}
		}
		p, e := fast.Plan(b, cond, exact)
		if ok, e2 := bits.True(p, want); !ok || e != api.OK || e2 != api.OK || len(p.May) > 0 && p.May[len(p.May)-1] > b.Len() {
			t.Fatalf("seed %d: Plan of %s: %v, of %v", seed, cond, p, want)
		}
		n, _ := fast.Asked(b, cond, exact)
		isDecided := slices.Equal(p.Sure, p.May)
		if n > b.Len() || isDecided && n != 0 {
			t.Fatal("Asked", n)
		}
		if !died {
			undied++
			if isDecided {
				decided++
			}
		}
		served, _ := fast.Served(b, cond)
		best, ok, _ := fast.Best(b, cond, exact)
		if ok && !slices.Contains(served, best) || !ok && best != "" {
			t.Fatal("Best", best, served)
		}
	}
	if decided < 100 {
		t.Error("too few are decided", decided, undied)
	}
}

// P13.2
func TestDecided(t *testing.T) {
	for seed := range 600 {
		r := rand.New(rand.NewSource(int64(seed)))
		b := makeBag(t, r, 10, [][]api.Tag{allTags[:2], moreTags, moreTags[:5], {moreTags[0], moreTags[1], allTags[0], allTags[1]}}[seed%4]...)
		pick := func(l ...string) string { return l[r.Intn(len(l))] }
		part := func() string {
			if r.Intn(2) == 0 {
				return pick("age"+pick("=", "==", "<", "<=", ">", ">=")+pick("1", "3", "5", "'a'"), pick("1", "3")+pick("=", "==", "<", ">=")+"age")
			}
			return pick("'ab'", "'b'", "'"+strings.Repeat("x", 40)+"'", "3") + pick("<", "<=", ">", ">=") + "name"
		}
		cond := part()
		for range r.Intn(4) {
			cond = "(" + cond + ")" + pick(".and.", ".or.") + part()
		}
		for _, exact := range []bool{false, true} {
			want, died := trueAt(b, cond, exact)
			if died {
				continue
			}
			p, e := fast.Plan(b, cond, exact)
			n, e2 := fast.Asked(b, cond, exact)
			if !slices.Equal(p.Sure, want) || !slices.Equal(p.May, want) || e != api.OK || n != 0 || e2 != api.OK {
				t.Fatal(cond, p, want, n)
			}
		}
	}
}

// P13.2: a tag that is a condition by itself tells all of it, too.
func TestDecidedByKeys(t *testing.T) {
	b := makeBag(t, rand.New(rand.NewSource(5)), 0, moreTags...)
	for i, name := range []string{"a", "b", "c", "d"} {
		b.Append(api.Record{V: []api.Value{text(name), num(i), {Kind: api.Truth, N: i % 2}}})
	}
	for cond, want := range map[string][]int{"ok": {2, 4}, "ok .and. age > 1": {4}, "age < 1 .or. ok": {1, 2, 4}, "age": nil} {
		p, e := fast.Plan(b, cond, false)
		n, _ := fast.Asked(b, cond, false)
		if !slices.Equal(p.Sure, want) || !slices.Equal(p.May, want) || e != api.OK || n != 0 {
			t.Error(cond, p, n)
		}
	}
}

func TestConstantsAndNoTags(t *testing.T) {
	b := makeBag(t, rand.New(rand.NewSource(2)), 10)
	for _, cond := range []string{".t.", ".f.", ".null.", "1 = 1", "'a' = 'ab'", "1 / 0", "5", "1 = 'a'"} {
		if n, e := fast.Asked(b, cond, false); n != 0 || e != api.OK {
			t.Error("Asked for the constant", cond, n)
		}
	}
	if n, _ := fast.Asked(b, "age > 3", false); n != 10 {
		t.Error("Asked without a tag", n)
	}
}

// P13.3
func TestServed(t *testing.T) {
	b := makeBag(t, rand.New(rand.NewSource(3)), 20, allTags...)
	for cond, want := range map[string]string{
		"upper(name) = 'A'": "NAMEC", "name = 'A'": "DOWN NAME", "3 < age": "AGE", "age <> 3": "", "age = age": "", "len(if(age = 3, 'a', 'b')) = 1": "", ".not. (age = 3) .or. upper( name ) >= 'x' + 'y'": "AGE NAMEC", "ok = .t.": "", "age + 0 = 3": "",
		"(age = 3) = .t.": "AGE", "age $ 'a'": "", "age = recno()": "", "if(age > 3, name, age) = 5": "MIX",
	} {
		if l, e := fast.Served(b, cond); strings.Join(l, " ") != want || e != api.OK {
			t.Errorf("Served %s: %v", cond, l)
		}
	}
}

func TestSplitAndBest(t *testing.T) {
	if l, e := fast.Split("a .and. (b .or. c) .and. d=1"); !slices.Equal(l, []string{"A", "B .OR. C", "D = 1"}) || e != api.OK {
		t.Error("Split", l, e)
	}
	b := makeBag(t, rand.New(rand.NewSource(4)), 0, allTags[0], allTags[1])
	for i := range 10 {
		b.Append(api.Record{V: []api.Value{text(string(rune('a' + i))), num(i), {Kind: api.Truth}}})
	}
	for cond, want := range map[string]string{"age > 2 .and. name > 'h'": "NAME", "age > 8 .and. name > 'h'": "AGE", "age > 7 .and. name > 'h'": "NAME", "age > 7 .and. name >= 'i'": "AGE", "age > 7 .or. name > 'h'": "", "ok": "", "name > 'a' .and. age < 4 .and. ok": "AGE"} {
		name, ok, e := fast.Best(b, cond, true)
		if cond == "age > 7 .and. name > 'h'" { // the first one of equals
			want = "AGE"
		}
		if name != want || ok != (want != "") || e != api.OK {
			t.Errorf("Best %s: %q", cond, name)
		}
	}
}
