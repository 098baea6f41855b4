package lex

import (
	"iter"
	"strings"

	"cabinetry/api"
	"cabinetry/val"
)

const (
	maxWord   = 24
	maxNumber = 15
	dateBytes = len("{^YYYY-MM-DD}")
)

// The classes of bytes.
const (
	other = iota
	blank
	feed
	letter
	digit
	quote
	sign
	semicolon
)

// classes tells for each byte what may begin with it.
func classes() [256]uint8 {
	var l [256]uint8
	mark := func(bytes string, class uint8) {
		for i := range len(bytes) {
			l[bytes[i]] = class
		}
	}
	mark("\t ", blank)
	mark("\n", feed)
	mark("ABCDEFGHIJKLMNOPQRSTUVWXYZabcdefghijklmnopqrstuvwxyz_", letter)
	mark("0123456789", digit)
	mark("\"'", quote)
	mark("()[]{},|:.=<>#!+-*/%^$&?@", sign)
	mark(";", semicolon)
	return l
}

// scanner goes through a source.
type scanner struct {
	class  [256]uint8
	s      string
	at     int
	had    bool // the line has a token
	goesOn bool // the next line feed is as a blank
	broken bool // there is no token at the place at
}

func isByte(c byte) bool {
	return c == '\t' || c == '\n' || c >= 32 && c <= 126
}

// tokens tells the tokens up to the end, or up to what is none.
func (c *scanner) tokens() iter.Seq[api.Token] {
	return func(yield func(api.Token) bool) {
		for c.at < len(c.s) {
			t, ok := c.next()
			if c.broken || ok && !yield(t) {
				return
			}
		}
		if c.had {
			yield(api.Token{Kind: api.KEnd, At: c.at})
		}
	}
}

// next takes what stands at the place; true: this was a token.
func (c *scanner) next() (api.Token, bool) {
	rest := c.s[c.at:]
	switch c.class[rest[0]] {
	case blank:
		c.at++
		return api.Token{}, false
	case feed:
		return c.endLine()
	case semicolon:
		if c.endsBehind(rest[1:]) {
			c.goesOn = true
			c.at++
		} else {
			c.broken = true
		}
		return api.Token{}, false
	}
	if strings.HasPrefix(rest, "&&") || rest[0] == '*' && !c.had {
		c.skipComment()
		return api.Token{}, false
	}
	return c.token(rest)
}

func (c *scanner) endLine() (api.Token, bool) {
	ended := c.had && !c.goesOn
	t := api.Token{Kind: api.KEnd, At: c.at}
	c.at++
	c.had = c.had && c.goesOn
	c.goesOn = false
	if !ended {
		return api.Token{}, false
	}
	return t, true
}

// endsBehind tells whether only blanks or a comment stand in the rest of a line.
func (c *scanner) endsBehind(rest string) bool {
	rest = strings.TrimLeft(rest, "\t ")
	return rest == "" || rest[0] == '\n' || strings.HasPrefix(rest, "&&")
}

func (c *scanner) skipComment() {
	for c.at < len(c.s) && c.s[c.at] != '\n' {
		if !isByte(c.s[c.at]) {
			c.broken = true
			return
		}
		c.at++
	}
}

// token takes the longest token.
func (c *scanner) token(rest string) (api.Token, bool) {
	t := api.Token{At: c.at}
	size := 0
	switch c.class[rest[0]] {
	case letter:
		size = c.run(rest, letter, digit)
		t.Kind, t.Text = api.KWord, upper(rest[:size])
		c.broken = size > maxWord
	case digit:
		size = c.run(rest, digit, digit)
		t.Kind, t.Text = api.KNum, rest[:size]
		c.broken = size > maxNumber
	case quote:
		t.Kind = api.KStr
		t.Text, size = c.text(rest)
	case sign:
		t.Kind, t.Text, size = signOrDate(rest)
	default:
		c.broken = true
	}
	if c.broken {
		return api.Token{}, false
	}
	c.at += size
	c.had = true
	return t, true
}

// run is how many bytes are of one of two classes.
func (c *scanner) run(rest string, one, two uint8) int {
	for i := range len(rest) {
		if k := c.class[rest[i]]; k != one && k != two {
			return i
		}
	}
	return len(rest)
}

// text takes a text with its quotes. If it does not end, the place stays; if it has a byte of no source, that is the place.
func (c *scanner) text(rest string) (string, int) {
	line, _, _ := strings.Cut(rest, "\n")
	end := strings.IndexByte(line[1:], rest[0])
	if end < 0 {
		c.broken = true
		return "", 0
	}
	s := line[1 : end+1]
	for i := range len(s) {
		if !isByte(s[i]) {
			c.at += i + 1
			c.broken = true
			return "", 0
		}
	}
	return s, len(s) + 2
}

func signOrDate(rest string) (kind int, text string, size int) {
	if strings.HasPrefix(rest, "{}") {
		return api.KDate, "", 2
	}
	if s, ok := date(rest); ok {
		return api.KDate, s, dateBytes
	}
	for _, s := range [...]string{".T.", ".F.", ".NULL.", ".AND.", ".OR.", ".NOT.", ":=", "==", "<>", "!=", "<=", ">=", "->"} {
		if len(rest) >= len(s) && upper(rest[:len(s)]) == s {
			return api.KSign, s, len(s)
		}
	}
	return api.KSign, rest[:1], 1
}

// date takes a date that is not empty, as its digits.
func date(rest string) (string, bool) {
	if len(rest) < dateBytes || rest[:2] != "{^" || rest[6] != '-' || rest[9] != '-' || rest[12] != '}' {
		return "", false
	}
	s := rest[2:6] + rest[7:9] + rest[10:12]
	day, ok := val.Unstamp(s)
	return s, ok && day > 0
}

func upper(s string) string {
	b := []byte(s)
	for i, c := range b {
		if c >= 'a' && c <= 'z' {
			b[i] = c - 'a' + 'A'
		}
	}
	return string(b)
}
