// Package val is layer 1: values.
package val

import (
	"strings"

	"cabinetry/api"
)

// Validate tells whether v is a value.
func Validate(v api.Value) api.Errno {
	if len(v.S) > api.MaxText {
		return api.ErrLarge
	}
	if !isValue(v) {
		return api.ErrArg
	}
	return api.OK
}

func isValue(v api.Value) bool {
	if v.Kind == api.Text {
		return v.N == 0
	}
	if v.S != "" {
		return false
	}
	switch v.Kind {
	case api.Nil:
		return v.N == 0
	case api.Truth:
		return v.N == 0 || v.N == 1
	case api.Num:
		return inRange(v.N)
	case api.Date:
		return v.N >= 0 && v.N <= api.MaxDate
	}
	return false
}

func inRange(n int) bool {
	return n >= -api.MaxNum && n <= api.MaxNum
}

// both returns the errors of two values, those of the first one first.
func both(a, b api.Value) api.Errno {
	if e := Validate(a); e != api.OK {
		return e
	}
	return Validate(b)
}

// Compare orders two values of one kind.
func Compare(a, b api.Value) (int, api.Errno) {
	if e := both(a, b); e != api.OK {
		return 0, e
	}
	if a.Kind != b.Kind || a.Kind == api.Nil {
		return 0, api.ErrType
	}
	if a.Kind == api.Text {
		return strings.Compare(a.S, b.S), api.OK
	}
	if a.N < b.N {
		return -1, api.OK
	}
	if a.N > b.N {
		return 1, api.OK
	}
	return 0, api.OK
}

// Equal compares two texts as = does.
func Equal(a, b string, exact bool) bool {
	if exact {
		return strings.TrimRight(a, " ") == strings.TrimRight(b, " ")
	}
	return strings.HasPrefix(a, b)
}

// Str writes a number into width bytes.
func Str(n, width int) (string, api.Errno) {
	if width < 1 || width > api.MaxWidth || !inRange(n) {
		return "", api.ErrArg
	}
	s := decimal(n)
	if len(s) > width {
		return strings.Repeat("*", width), api.OK
	}
	return strings.Repeat(" ", width-len(s)) + s, api.OK
}

// Val reads the number at the begin of a text.
func Val(s string) int {
	s = strings.TrimLeft(s, " ")
	sign := 1
	if s != "" && (s[0] == '-' || s[0] == '+') {
		if s[0] == '-' {
			sign = -1
		}
		s = s[1:]
	}
	n := 0
	for i := range len(s) {
		if !isDigit(s[i]) {
			break
		}
		n = min(n*10+int(s[i]-'0'), api.MaxNum)
	}
	return sign * n
}

func isDigit(c byte) bool {
	return c >= '0' && c <= '9'
}

// Show writes a value as a text.
func Show(v api.Value) (string, api.Errno) {
	if e := Validate(v); e != api.OK {
		return "", e
	}
	switch v.Kind {
	case api.Nil:
		return "NIL", api.OK
	case api.Truth:
		if v.N == 1 {
			return ".T.", api.OK
		}
		return ".F.", api.OK
	case api.Num:
		return decimal(v.N), api.OK
	case api.Date:
		s := stamp(v.N)
		return s[:4] + "-" + s[4:6] + "-" + s[6:], api.OK
	}
	return v.S, api.OK
}
