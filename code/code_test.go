package code_test

import (
	"math/rand"
	"reflect"
	"slices"
	"strconv"
	"strings"
	"testing"

	"cabinetry/api"
	"cabinetry/code"
	"cabinetry/tree"
)

const everything = `x = 1 + -2 * {1, 'a"%'}[1]
x[1] = .t. .and. y .or. .not. z
a->f = &m. + &(m)
&m = a->(b + 1)
? 1, f(@x, 2), if(a, b, c), if(1), eval({|p, q| {|| p + q}}, 1)
f(1)
local a, b := {^2024-02-29}
private a := {}
public a := .null.
static a := 5
if a
? 1
elseif b
else
? 2
endif
do while a
loop
begin sequence
exit
begin sequence
loop
recover using e
? e
end
end
enddo
for i = 1 to 3 step 2
next
do f with x, @y, 1
break
break 1
return 5
use t alias a
go top
go 5
skip
seek 'x'
replace a with 1, b with c next 5 for d
index on a tag t for b unique descending
function f(a, b)
return {|x| a}
procedure g
`

func compiled(t *testing.T, s string) []api.Unit {
	t.Helper()
	p, _, e := tree.Parse(s)
	if e != api.OK {
		t.Fatal(s, e)
	}
	l, e := code.Compile(p)
	if e != api.OK {
		t.Fatal(s, e)
	}
	return l
}

// P22.1
func TestCompile(t *testing.T) {
	if l := compiled(t, ""); len(l) != 1 || l[0].Name != "MAIN" || code.Validate(l) != api.OK {
		t.Error("the empty program", l)
	}
	l := compiled(t, everything)
	if e := code.Validate(l); e != api.OK || !slices.Equal(code.Names(l)[:3], []string{"MAIN", "F", "G"}) || len(l) != 6 {
		t.Error(e, code.Names(l))
	}
	again := compiled(t, everything)
	if !code.Same(l, again) {
		t.Error("equal calls")
	}
	if _, e := code.Compile(nil); e != api.ErrArg {
		t.Error(e)
	}
	if _, e := code.Compile([]api.Proc{{Name: "MAIN", Body: make([]api.Stmt, 401)}}); e != api.ErrLarge {
		t.Error(e)
	}
	long := api.Expr{V: api.Value{Kind: api.Text, S: strings.Repeat("x", 2000)}}
	both := api.Expr{Op: api.XBin, S: "=", L: []api.Expr{long, {Op: api.XBin, S: "+", L: []api.Expr{long, long}}}}
	command := api.Stmt{Op: api.SCmd, S: "DELETE", C: api.Scope{For: []api.Expr{both}}}
	if _, e := code.Compile([]api.Proc{{Name: "MAIN", Body: []api.Stmt{command}}}); e != api.ErrLarge {
		t.Error("a text that is too long", e)
	}
	if l, e := code.Compile([]api.Proc{{Name: "MAIN", Body: []api.Stmt{{Op: api.SPrint, X: []api.Expr{both}}}}}); e != api.OK || code.Validate(l) != api.OK {
		t.Error("texts that are long", e)
	}
}

// No program of 150 nodes is too large.
func TestSmallPrograms(t *testing.T) {
	guards := strings.Repeat("begin sequence\n", 12) + strings.Repeat("loop\n", 100) + strings.Repeat("end\n", 12)
	for _, s := range []string{"do while x\n" + guards + "enddo", strings.Repeat("for i = 1 to 2\nnext\n", 30), strings.Repeat("begin sequence\nrecover using e\nend\n", 150), strings.Repeat("break\n", 150), "procedure p(" + strings.Repeat("a,", 1200) + "a)"} {
		if _, _, e := tree.Parse(s); e == api.ErrLarge {
			continue
		}
		if l := compiled(t, s); code.Validate(l) != api.OK {
			t.Errorf("%.30q", s)
		}
	}
}

func TestValidateErrors(t *testing.T) {
	base := compiled(t, "x = 1\nif x\n? {|a| a}\nendif")
	for i, c := range []struct {
		change func(l []api.Unit) []api.Unit
		e      api.Errno
	}{
		{func(l []api.Unit) []api.Unit { return nil }, api.ErrArg}, {func(l []api.Unit) []api.Unit { return make([]api.Unit, 3001) }, api.ErrLarge}, {func(l []api.Unit) []api.Unit { l[0].Code = make([]api.Code, 3001); return l }, api.ErrLarge}, {func(l []api.Unit) []api.Unit { l[0].Code[1].S = strings.Repeat("x", 4001); l[0].Row = nil; return l }, api.ErrLarge},
		{func(l []api.Unit) []api.Unit { l[0].Row = make([]int, 2049); return l }, api.ErrLarge}, {func(l []api.Unit) []api.Unit { l[0].Name = strings.Repeat("x", 4001); return l }, api.ErrLarge}, {func(l []api.Unit) []api.Unit { l[0].Name = "X"; return l }, api.ErrArg}, {func(l []api.Unit) []api.Unit { l[0].Code[1].Op = -1; return l }, api.ErrArg}, {func(l []api.Unit) []api.Unit { l[0].Code[1].Op = 99; return l }, api.ErrArg},
		{func(l []api.Unit) []api.Unit { l[0].Code[1].B = 7; return l }, api.ErrArg}, {func(l []api.Unit) []api.Unit { l[0].Code = nil; return l }, api.ErrArg}, {func(l []api.Unit) []api.Unit { l[1].Row = nil; return l }, api.ErrArg}, {func(l []api.Unit) []api.Unit { return l[:1] }, api.ErrArg}, {func(l []api.Unit) []api.Unit { return append(l, make([]api.Unit, 3000)...) }, api.ErrLarge}, {func(l []api.Unit) []api.Unit { return l }, api.OK},
	} {
		l := c.change(code.Copy(base))
		_, e := code.Text(l)
		if v := code.Validate(l); v != c.e || e != c.e {
			t.Errorf("case %d: %d %d, want %d", i, v, e, c.e)
		}
	}
	jumps := code.Jumps(base)
	for _, a := range []int{-1, 0, len(base[0].Code), 1 << 40} {
		l := code.Copy(base)
		l[jumps[0][0]].Code[jumps[0][1]].A = a
		if code.Validate(l) != api.ErrArg {
			t.Error("a jump to", a)
		}
	}
}

// P22.2
func TestText(t *testing.T) {
	l := compiled(t, everything)
	s, e := code.Text(l)
	if e != api.OK || !strings.HasPrefix(s, "unit \"MAIN\" 0 0\n0 0 0 \"\"\n") || !strings.Contains(s, "\"a%22%25\"\n") || !strings.HasSuffix(s, "sum "+strconv.Itoa(code.Sum(l))+"\n") {
		t.Error(e, s)
	}
	back, e := code.Read(s)
	if e != api.OK || !code.Same(l, back) || code.Validate(back) != api.OK {
		t.Error("Read", e)
	}
	at := strings.LastIndex(s, "sum ")
	n := 0
	for i := range at {
		n = (n*263 + int(s[i]) + 1) % 1000033
	}
	if n != code.Sum(l) {
		t.Error("Sum", n)
	}
}

func TestReadErrors(t *testing.T) {
	s, _ := code.Text(compiled(t, "? 12, 'a%'"))
	withSum := func(body string) string {
		n := 0
		for i := range len(body) {
			n = (n*263 + int(body[i]) + 1) % 1000033
		}
		return body + "sum " + strconv.Itoa(n) + "\n"
	}
	body := s[:strings.LastIndex(s, "sum ")]
	for i, c := range []struct {
		s string
		e api.Errno
	}{
		{s, api.OK}, {"", api.ErrSyntax}, {strings.Repeat("x", 200001), api.ErrLarge}, {strings.Repeat("x", 200000), api.ErrSyntax}, {s[:len(s)-1], api.ErrSyntax}, {s + "\n", api.ErrSyntax}, {body, api.ErrSyntax}, {strings.Replace(s, "sum ", "sum 0", 1), api.ErrSyntax}, {body + "sum 1\n", api.ErrProof}, {body + "sum -1\n", api.ErrProof},
		{strings.Replace(s, " 12 ", " 13 ", 1), api.ErrProof}, {withSum(strings.Replace(body, " 12 ", " 012 ", 1)), api.ErrSyntax}, {withSum(strings.Replace(body, "%25", "%2g", 1)), api.ErrSyntax}, {withSum(strings.Replace(body, "%25", "%61", 1)), api.ErrSyntax}, {withSum(strings.Replace(body, "%25", "%2", 1)), api.ErrSyntax}, {withSum(strings.Replace(body, "%25", "\x80", 1)), api.ErrSyntax}, {withSum(strings.Replace(body, "unit", "Unit", 1)), api.ErrSyntax}, {withSum(strings.Replace(body, " 0\n", "  0\n", 1)), api.ErrSyntax},
		{withSum(body[strings.Index(body, "\n")+1:]), api.ErrSyntax}, {withSum(body + "\n"), api.ErrSyntax}, {withSum(""), api.ErrArg}, {withSum("unit \"X\"\n"), api.ErrArg}, {withSum("unit \"MAIN\" 99999999999999999999\n"), api.ErrSyntax}, {withSum(body + "unit \"\" 2 0\n"), api.ErrArg}, {withSum(body + strings.Repeat("unit \"\"\n", 3000)), api.ErrLarge}, {"sum 0\n" + s, api.ErrSyntax},
	} {
		if l, e := code.Read(c.s); e != c.e || (l == nil) != (e != api.OK) {
			t.Errorf("Read %d: %d, want %d", i, e, c.e)
		}
	}
	for i := range s {
		if s[i] < '0' || s[i] > '9' {
			continue
		}
		for d := byte('0'); d <= '9'; d++ {
			x := s[:i] + string([]byte{d}) + s[i+1:]
			if _, e := code.Read(x); x != s && e != api.ErrProof && e != api.ErrSyntax {
				t.Errorf("a digit at %d: %d", i, e)
			}
		}
	}
}

func TestParts(t *testing.T) {
	l := compiled(t, "? 1\nprocedure p")
	if n := code.Size(l); n != len(l[0].Code)+len(l[1].Code) || code.Size(nil) != 0 {
		t.Error(n)
	}
	if !reflect.DeepEqual(code.Names(l), []string{"MAIN", "P"}) {
		t.Error(code.Names(l))
	}
	c := code.Copy(l)
	c[0].Code[0].S, c[1].Row[0] = "x", 9
	if code.Same(l, c) || l[0].Code[0].S == "x" || l[1].Row[0] == 9 || !code.Same(nil, []api.Unit{}) || !code.Same([]api.Unit{{Row: []int{}}}, []api.Unit{{}}) {
		t.Error("Copy, Same")
	}
	for _, j := range code.Jumps(compiled(t, everything)) {
		if j[0] < 0 || j[1] < 0 {
			t.Error(j)
		}
	}
	if len(code.Jumps(compiled(t, "? 1"))) != 0 || len(code.Jumps(compiled(t, "if a\nendif"))) == 0 {
		t.Error("Jumps")
	}
	if code.Sum([]api.Unit{{Name: "\xff"}}) == 0 {
		t.Error("Sum of any code")
	}
}

// What Validate takes is read as it was.
func TestReadOfText(t *testing.T) {
	base := compiled(t, everything)
	taken := 0
	for seed := range 4000 {
		r := rand.New(rand.NewSource(int64(seed)))
		l := code.Copy(base)
		for range r.Intn(3) {
			u := l[r.Intn(len(l))].Code
			i := r.Intn(len(u))
			switch r.Intn(4) {
			case 0:
				u[i] = u[r.Intn(len(u))]
			case 1:
				u[i].A += r.Intn(5) - 2
			case 2:
				u[i].Op = r.Intn(56)
			default:
				u[i].S += []string{"", "\x00", "\"", "é", "A"}[r.Intn(5)]
			}
		}
		if code.Validate(l) != api.OK {
			continue
		}
		taken++
		s, e := code.Text(l)
		back, e2 := code.Read(s)
		if e != api.OK || e2 != api.OK || !code.Same(l, back) {
			t.Fatal(seed, e, e2)
		}
	}
	if taken < 500 {
		t.Error(taken)
	}
}
