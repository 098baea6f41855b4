package code

import (
	"strconv"
	"strings"

	"cabinetry/api"
)

const (
	mostBytes = 200000
	sumModulo = 1000033
	sumWord   = "sum "
	unitWord  = "unit "
)

const hexDigits = "0123456789abcdef"

// quoted writes a text between quotes.
func quoted(out *strings.Builder, s string) {
	out.WriteByte('"')
	for i := range len(s) {
		c := s[i]
		if c == '"' || c == '%' || c < 0x20 || c > 0x7E {
			out.WriteByte('%')
			out.WriteByte(hexDigits[c>>4])
			out.WriteByte(hexDigits[c&15])
		} else {
			out.WriteByte(c)
		}
	}
	out.WriteByte('"')
}

// body is the text of code without its sum.
func body(l []api.Unit) string {
	var out strings.Builder
	for _, u := range l {
		out.WriteString(unitWord)
		quoted(&out, u.Name)
		for _, n := range u.Row {
			out.WriteString(" " + strconv.Itoa(n))
		}
		out.WriteString("\n")
		for _, c := range u.Code {
			out.WriteString(strconv.Itoa(c.Op) + " " + strconv.Itoa(c.A) + " " + strconv.Itoa(c.B) + " ")
			quoted(&out, c.S)
			out.WriteString("\n")
		}
	}
	return out.String()
}

func sumOf(s string) int {
	n := 0
	for i := range len(s) {
		n = (n*263 + int(s[i]) + 1) % sumModulo
	}
	return n
}

// scanner takes words of a line.
type scanner struct {
	rest   string
	failed bool
}

func (s *scanner) literal(text string) {
	rest, ok := strings.CutPrefix(s.rest, text)
	s.rest = rest
	s.failed = s.failed || !ok
}

func (s *scanner) number() int {
	end := strings.IndexByte(s.rest, ' ')
	if end < 0 {
		end = len(s.rest)
	}
	n, err := strconv.Atoi(s.rest[:end])
	s.failed = s.failed || err != nil
	s.rest = s.rest[end:]
	return n
}

func (s *scanner) quoted() string {
	s.literal("\"")
	var out []byte
	for s.rest != "" && s.rest[0] != '"' {
		c, size := s.rest[0], 1
		if c == '%' {
			if len(s.rest) < 3 {
				s.failed = true
				return ""
			}
			n, err := strconv.ParseUint(s.rest[1:3], 16, 8)
			s.failed = s.failed || err != nil
			c, size = byte(n), 3
		}
		out = append(out, c)
		s.rest = s.rest[size:]
	}
	s.literal("\"")
	return string(out)
}

// units reads the lines of code without its sum.
func units(lines []string) ([]api.Unit, bool) {
	var l []api.Unit
	for _, line := range lines {
		s := scanner{rest: line}
		if strings.HasPrefix(line, unitWord) {
			s.literal(unitWord)
			u := api.Unit{Name: s.quoted()}
			for s.rest != "" && !s.failed {
				s.literal(" ")
				u.Row = append(u.Row, s.number())
			}
			l = append(l, u)
		} else {
			c := instruction(&s)
			if len(l) == 0 {
				return nil, false
			}
			last := &l[len(l)-1]
			last.Code = append(last.Code, c)
		}
		if s.failed || s.rest != "" {
			return nil, false
		}
	}
	return l, true
}

func instruction(s *scanner) api.Code {
	var c api.Code
	for _, n := range [...]*int{&c.Op, &c.A, &c.B} {
		*n = s.number()
		s.literal(" ")
	}
	c.S = s.quoted()
	return c
}

// parse reads a text of code and its sum; false: no code has it.
func parse(s string) (l []api.Unit, sum int, ok bool) {
	at := strings.LastIndex("\n"+s, "\n"+sumWord)
	if at < 0 {
		return nil, 0, false
	}
	code := s[:at]
	number, isLine := strings.CutSuffix(s[at+len(sumWord):], "\n")
	sum, err := strconv.Atoi(number)
	if !isLine || err != nil || strconv.Itoa(sum) != number {
		return nil, 0, false
	}
	if code != "" {
		l, ok = units(strings.Split(strings.TrimSuffix(code, "\n"), "\n"))
		if !ok {
			return nil, 0, false
		}
	}
	// What was read too kindly, as a number with zeros in front, shows here.
	return l, sum, body(l) == code
}
