package val

import (
	"math/bits"
	"strconv"
	"strings"

	"cabinetry/api"
)

// operation is what one of api's operations does with two values that are not Nil.
type operation func(a, b api.Value) (api.Value, int)

// Do returns the result of an operation, or why there is none.
func Do(op int, a, b api.Value) (api.Value, int, api.Errno) {
	if e := both(a, b); e != api.OK {
		return api.Value{}, 0, e
	}
	operations := [...]operation{api.Add: add, api.Sub: sub, api.Mul: mul, api.Div: div, api.Mod: mod, api.Pow: pow}
	if op < 0 || op >= len(operations) {
		return api.Value{}, 0, api.ErrArg
	}
	if a.Kind == api.Nil || b.Kind == api.Nil {
		return api.Value{}, 0, api.OK
	}
	v, why := operations[op](a, b)
	return v, why, api.OK
}

func decimal(n int) string {
	return strconv.Itoa(n)
}

func isPair(a, b api.Value, first, second int) bool {
	return a.Kind == first && b.Kind == second
}

func number(n int) (api.Value, int) {
	if !inRange(n) {
		return api.Value{}, api.DieRange
	}
	return api.Value{Kind: api.Num, N: n}, 0
}

func text(s string) (api.Value, int) {
	if len(s) > api.MaxText {
		return api.Value{}, api.DieRange
	}
	return api.Value{Kind: api.Text, S: s}, 0
}

// later moves a day by n; the empty date stays empty.
func later(day, n int) (api.Value, int) {
	if day == 0 {
		return api.Value{Kind: api.Date}, 0
	}
	day += n
	if day < 1 || day > api.MaxDate {
		return api.Value{}, api.DieRange
	}
	return api.Value{Kind: api.Date, N: day}, 0
}

func add(a, b api.Value) (api.Value, int) {
	switch {
	case isPair(a, b, api.Num, api.Num):
		return number(a.N + b.N)
	case isPair(a, b, api.Date, api.Num):
		return later(a.N, b.N)
	case isPair(a, b, api.Num, api.Date):
		return later(b.N, a.N)
	case isPair(a, b, api.Text, api.Text):
		return text(a.S + b.S)
	}
	return api.Value{}, api.DieType
}

func sub(a, b api.Value) (api.Value, int) {
	switch {
	case isPair(a, b, api.Num, api.Num):
		return number(a.N - b.N)
	case isPair(a, b, api.Date, api.Num):
		return later(a.N, -b.N)
	case isPair(a, b, api.Date, api.Date):
		if a.N == 0 || b.N == 0 {
			return number(0)
		}
		return number(a.N - b.N)
	case isPair(a, b, api.Text, api.Text):
		kept := strings.TrimRight(a.S, " ")
		return text(kept + b.S + a.S[len(kept):])
	}
	return api.Value{}, api.DieType
}

func mul(a, b api.Value) (api.Value, int) {
	if !isPair(a, b, api.Num, api.Num) {
		return api.Value{}, api.DieType
	}
	n, ok := product(a.N, b.N)
	if !ok {
		return api.Value{}, api.DieRange
	}
	return number(n)
}

// product multiplies two numbers within MaxNum; it tells whether the result is within it too.
func product(a, b int) (int, bool) {
	high, low := bits.Mul64(uint64(size(a)), uint64(size(b)))
	if high != 0 || low > api.MaxNum {
		return 0, false
	}
	if (a < 0) != (b < 0) {
		return -int(low), true
	}
	return int(low), true
}

func size(n int) int {
	return max(n, -n)
}

func div(a, b api.Value) (api.Value, int) {
	if !isPair(a, b, api.Num, api.Num) {
		return api.Value{}, api.DieType
	}
	if b.N == 0 {
		return api.Value{}, api.DieZero
	}
	return number(a.N / b.N)
}

func mod(a, b api.Value) (api.Value, int) {
	if !isPair(a, b, api.Num, api.Num) {
		return api.Value{}, api.DieType
	}
	if b.N == 0 {
		return api.Value{}, api.DieZero
	}
	return number(a.N % b.N)
}

func pow(a, b api.Value) (api.Value, int) {
	if !isPair(a, b, api.Num, api.Num) {
		return api.Value{}, api.DieType
	}
	if b.N < 0 {
		return api.Value{}, api.DieRange
	}
	if size(a.N) <= 1 {
		return smallPower(a.N, b.N)
	}
	n := 1
	for range b.N { // leaves the range of numbers within 50 turns
		next, ok := product(n, a.N)
		if !ok {
			return api.Value{}, api.DieRange
		}
		n = next
	}
	return number(n)
}

// smallPower is a power of -1, 0 or 1, whose exponent may be any number.
func smallPower(a, b int) (api.Value, int) {
	if b == 0 || a == 1 || a == -1 && b%2 == 0 {
		return number(1)
	}
	return number(a)
}
