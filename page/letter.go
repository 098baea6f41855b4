package page

import (
	"strings"

	"cabinetry/api"
)

// cases are, for each page, runs of capitals: the first, the last one, and how much more their small letters are.
var cases = [3][3][3]byte{
	{{0x41, 0x5A, 0x20}, {1, 0, 0}, {1, 0, 0}},
	{{0x41, 0x5A, 0x20}, {0xC0, 0xDE, 0x20}, {1, 0, 0}},
	{{0x41, 0x5A, 0x20}, {0x80, 0x8F, 0x20}, {0x90, 0x9F, 0x50}},
}

// accents are runs of capitals of page 1 and the letter that they weigh as much as.
var accents = [9][3]byte{
	{0xC0, 0xC5, 0x41}, {0xC7, 0xC7, 0x43}, {0xC8, 0xCB, 0x45}, {0xCC, 0xCF, 0x49}, {0xD1, 0xD1, 0x4E},
	{0xD2, 0xD6, 0x4F}, {0xD9, 0xDC, 0x55}, {0xDD, 0xDD, 0x59}, {1, 0, 0},
}

// isTimes tells the two bytes of page 1 that stand among the letters and are none.
func isTimes(capital byte, page int) bool {
	return page == 1 && capital == 0xD7
}

func upper(b byte, page int) byte {
	for _, run := range cases[page] {
		if capital := b - run[2]; run[0] <= capital && capital <= run[1] && !isTimes(capital, page) {
			return capital
		}
	}
	return b
}

func lower(b byte, page int) byte {
	for _, run := range cases[page] {
		if run[0] <= b && b <= run[1] && !isTimes(b, page) {
			return b + run[2]
		}
	}
	return b
}

func isLetter(b byte, page int) bool {
	return upper(b, page) != lower(b, page)
}

func weight(b byte, page, coll int) byte {
	if coll == 0 {
		return b
	}
	b = upper(b, page)
	if page != 1 {
		return b
	}
	for _, run := range accents {
		if run[0] <= b && b <= run[1] {
			return run[2]
		}
	}
	return b
}

// mapped replaces each byte of a text.
func mapped(s string, change func(b byte) byte) string {
	out := []byte(s)
	for i, b := range out {
		out[i] = change(b)
	}
	return string(out)
}

// Upper makes letters capitals.
func Upper(s string, page int) (string, api.Errno) {
	if e := wrong(page, 0, s); e != api.OK {
		return "", e
	}
	return mapped(s, func(b byte) byte { return upper(b, page) }), api.OK
}

// Lower makes letters small.
func Lower(s string, page int) (string, api.Errno) {
	if e := wrong(page, 0, s); e != api.OK {
		return "", e
	}
	return mapped(s, func(b byte) byte { return lower(b, page) }), api.OK
}

// Proper makes the first letter of each word a capital, and the others small.
func Proper(s string, page int) (string, api.Errno) {
	if e := wrong(page, 0, s); e != api.OK {
		return "", e
	}
	inWord := false
	change := func(b byte) byte {
		behind := inWord
		inWord = isLetter(b, page)
		if behind {
			return lower(b, page)
		}
		return upper(b, page)
	}
	return mapped(s, change), api.OK
}

// Weights returns the weights of the bytes of a text.
func Weights(s string, page, coll int) (string, api.Errno) {
	if e := wrong(page, coll, s); e != api.OK {
		return "", e
	}
	return weights(s, page, coll), api.OK
}

func weights(s string, page, coll int) string {
	return mapped(s, func(b byte) byte { return weight(b, page, coll) })
}

// Order compares the weights of two texts.
func Order(s, t string, page, coll int) (int, api.Errno) {
	if e := wrong(page, coll, s, t); e != api.OK {
		return 0, e
	}
	return strings.Compare(weights(s, page, coll), weights(t, page, coll)), api.OK
}

// Count returns how many letters, digits and others a text has.
func Count(s string, page int) (int, int, int, api.Errno) {
	if e := wrong(page, 0, s); e != api.OK {
		return 0, 0, 0, e
	}
	letters, digits := 0, 0
	for i := range len(s) {
		if isLetter(s[i], page) {
			letters++
		} else if s[i] >= '0' && s[i] <= '9' {
			digits++
		}
	}
	return letters, digits, len(s) - letters - digits, api.OK
}
