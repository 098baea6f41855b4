package val

import (
	"strings"

	"cabinetry/api"
)

func isLarge(texts ...string) bool {
	for _, s := range texts {
		if len(s) > api.MaxText {
			return true
		}
	}
	return false
}

// Trim leaves off blanks at the end (0), at the begin (1), or at both (2).
func Trim(s string, side int) (string, api.Errno) {
	if isLarge(s) {
		return "", api.ErrLarge
	}
	switch side {
	case 0:
		return strings.TrimRight(s, " "), api.OK
	case 1:
		return strings.TrimLeft(s, " "), api.OK
	case 2:
		return strings.Trim(s, " "), api.OK
	}
	return "", api.ErrArg
}

// Pad makes a text n bytes long, with blanks behind (0), before (1), or around it (2).
func Pad(s string, n, side int) (string, api.Errno) {
	if isLarge(s) {
		return "", api.ErrLarge
	}
	if n < 0 || n > api.MaxText || side < 0 || side > 2 {
		return "", api.ErrArg
	}
	if n <= len(s) {
		return s[:n], api.OK
	}
	missing := n - len(s)
	front := [...]int{0, missing, missing / 2}[side]
	return strings.Repeat(" ", front) + s + strings.Repeat(" ", missing-front), api.OK
}

// bounds turns a place and a number of bytes into the begin and the end of what they mean in length bytes.
func bounds(length, from, n int) (int, int) {
	from = min(max(from, 1)-1, length)
	n = min(max(n, 0), length-from)
	return from, from + n
}

// Part returns n bytes from a place on.
func Part(s string, from, n int) (string, api.Errno) {
	if isLarge(s) {
		return "", api.ErrLarge
	}
	begin, end := bounds(len(s), from, n)
	return s[begin:end], api.OK
}

// At returns the first place at which t stands in s.
func At(t, s string) int {
	if t == "" {
		return 0
	}
	return strings.Index(s, t) + 1
}

// Stuff replaces n bytes from a place on by t.
func Stuff(s string, from, n int, t string) (string, api.Errno) {
	if isLarge(s, t) {
		return "", api.ErrLarge
	}
	begin, end := bounds(len(s), from, n)
	return notLarge(s[:begin] + t + s[end:])
}

// Swap replaces each a in s by b.
func Swap(s, a, b string) (string, api.Errno) {
	if isLarge(s, a, b) {
		return "", api.ErrLarge
	}
	if a == "" {
		return s, api.OK
	}
	return notLarge(strings.ReplaceAll(s, a, b))
}

func notLarge(s string) (string, api.Errno) {
	if isLarge(s) {
		return "", api.ErrLarge
	}
	return s, api.OK
}
