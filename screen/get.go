package screen

import (
	"slices"
	"strconv"
	"strings"

	"cabinetry/api"
	"cabinetry/lex"
	"cabinetry/tree"
	"cabinetry/val"
)

// The keys that are no characters.
const (
	keyEnter     = 1
	keyUp        = 2
	keyDown      = 3
	keyLeft      = 4
	keyRight     = 5
	keyBackspace = 6
	keyDelete    = 7
	keyEscape    = 8
	keyHome      = 9
	keyEnd       = 10
	keyInsert    = 11
)

const (
	mostPicture = 40
	mostDigits  = 15
)

func isCharacter(key int) bool {
	return key >= 0x20 && key <= 0x7E
}

func isSmall(c byte) bool {
	return c >= 'a' && c <= 'z'
}

func capital(c byte) byte {
	if isSmall(c) {
		return c - 'a' + 'A'
	}
	return c
}

// Takes returns as what a place takes a key.
func Takes(place byte, key int) (byte, bool) {
	if !isCharacter(key) {
		return 0, false
	}
	c := byte(key)
	isDigit := c >= '0' && c <= '9'
	isLetter := capital(c) >= 'A' && capital(c) <= 'Z'
	ok := false
	switch place {
	case '9':
		ok = isDigit
	case 'A':
		ok = isLetter
	case 'N':
		ok = isLetter || isDigit
	case 'X':
		ok = true
	case '!':
		return capital(c), true
	}
	if !ok {
		return 0, false
	}
	return c, true
}

// placesOf returns the numbers of the bytes of a picture that are places.
func placesOf(picture string) []int {
	var out []int
	for i := range len(picture) {
		if strings.IndexByte("9ANX!", picture[i]) >= 0 {
			out = append(out, i)
		}
	}
	return out
}

func isPicture(s string) bool {
	return len(s) >= 1 && len(s) <= mostPicture && !slices.ContainsFunc([]byte(s), func(c byte) bool { return !isCharacter(int(c)) })
}

// isGet tells whether a get has a right name, picture and value.
func isGet(g api.Get) bool {
	places := placesOf(g.Picture)
	if !lex.IsName(g.Name) || !isPicture(g.Picture) || len(places) == 0 || val.Validate(g.Value) != api.OK {
		return false
	}
	if g.Value.Kind == api.Num {
		isOther := func(i int) bool { return g.Picture[i] != '9' }
		return len(places) <= mostDigits && !slices.ContainsFunc(places, isOther)
	}
	return g.Value.Kind == api.Text
}

func hasLongText(g api.Get) bool {
	for _, s := range [...]string{g.Name, g.Picture, g.When, g.Valid, g.Value.S} {
		if len(s) > api.MaxText {
			return true
		}
	}
	return false
}

func isCondition(s string) bool {
	_, _, e := tree.ParseExpr(s)
	return s == "" || e == api.OK
}

// Validate tells whether l are the gets of a screen.
func Validate(l []api.Get) api.Errno {
	if len(l) > api.MaxFields || slices.ContainsFunc(l, hasLongText) {
		return api.ErrLarge
	}
	if slices.ContainsFunc(l, func(g api.Get) bool { return !isGet(g) }) {
		return api.ErrArg
	}
	names := map[string]bool{}
	for _, g := range l {
		names[g.Name] = true
	}
	if len(names) < len(l) {
		return api.ErrTwice
	}
	for _, g := range l {
		if !isCondition(g.When) || !isCondition(g.Valid) {
			return api.ErrSyntax
		}
	}
	return api.OK
}

// filled is a picture with its places filled by bytes from the left; what a place does not take is a blank.
func filled(picture, s string) string {
	out := []byte(picture)
	for k, i := range placesOf(picture) {
		out[i] = ' '
		if k < len(s) {
			if c, ok := Takes(picture[i], int(s[k])); ok {
				out[i] = c
			}
		}
	}
	return string(out)
}

// textOf is the text of a get with a value.
func textOf(picture string, v api.Value) string {
	if v.Kind == api.Text {
		return filled(picture, v.S)
	}
	digits := strconv.Itoa(v.N)
	room := len(placesOf(picture)) - len(digits)
	if v.N < 0 || room < 0 {
		return filled(picture, "")
	}
	return filled(picture, strings.Repeat(" ", room)+digits)
}

// valueOf is the value of a text of a get.
func valueOf(picture, s string, kind int) api.Value {
	var b []byte
	for _, i := range placesOf(picture) {
		b = append(b, s[i])
	}
	if kind == api.Num {
		return api.Value{Kind: api.Num, N: val.Val(strings.ReplaceAll(string(b), " ", ""))}
	}
	return api.Value{Kind: api.Text, S: strings.TrimRight(string(b), " ")}
}

// Show returns the text of a get.
func Show(g api.Get) (string, api.Errno) {
	if e := Validate([]api.Get{g}); e != api.OK {
		return "", e
	}
	return textOf(g.Picture, g.Value), api.OK
}

// Value returns the value of a text of a get.
func Value(g api.Get, text string) (api.Value, api.Errno) {
	if e := Validate([]api.Get{g}); e != api.OK {
		return api.Value{}, e
	}
	if len(text) != len(g.Picture) {
		return api.Value{}, api.ErrFit
	}
	places := placesOf(g.Picture)
	for i := range len(text) {
		if text[i] != g.Picture[i] && !slices.Contains(places, i) {
			return api.Value{}, api.ErrFit
		}
	}
	return valueOf(g.Picture, text, g.Value.Kind), api.OK
}

// Transform returns a picture's text of the bytes of s.
func Transform(s string, picture string) (string, api.Errno) {
	if len(s) > api.MaxText || len(picture) > api.MaxText {
		return "", api.ErrLarge
	}
	if !isPicture(picture) {
		return "", api.ErrArg
	}
	return filled(picture, s), api.OK
}

// Layout returns a line for each get: its name and its text.
func Layout(l []api.Get, width int) ([]string, api.Errno) {
	if e := Validate(l); e != api.OK {
		return nil, e
	}
	if width < 10 || width > api.MaxLine {
		return nil, api.ErrArg
	}
	longest := 0
	for _, g := range l {
		longest = max(longest, len(g.Name))
	}
	var out []string
	for _, g := range l {
		line := g.Name + strings.Repeat(" ", longest+1-len(g.Name)) + textOf(g.Picture, g.Value)
		out = append(out, line[:min(len(line), width)])
	}
	return out, api.OK
}
