package pre

import (
	"slices"
	"strings"

	"cabinetry/api"
	"cabinetry/lex"
)

// token is a token with the names that it came out of.
type token struct {
	api.Token
	out []string
}

// The kinds of parts.
const (
	literal  = iota // a token as it is
	marker          // in a pattern an expression, in a result what the marker has
	list            // a list of expressions
	choice          // one of some words
	optional        // a row that may be missing
	asText          // what the marker has, as a text
	asTruth         // whether the marker has something
)

// part is a part of a pattern or of a result.
type part struct {
	kind  int
	token api.Token
	name  string
	words []string
	row   []part
}

// form is what all rules have: a pattern and a result.
type form struct {
	pattern, result []part
}

// translation is a #TRANSLATE.
type translation struct {
	form
}

// command is a #COMMAND.
type command struct {
	form
}

const blanks = "\t "

// splitDirective cuts a directive into its word and what stands behind it; an empty word: it is none.
func splitDirective(line string) (word, rest string) {
	s, ok := strings.CutPrefix(strings.TrimLeft(line, blanks), "#")
	if !ok {
		return "", ""
	}
	s = strings.TrimLeft(s, blanks)
	w := s[:wordLength(s)]
	word, _ = lex.Full(w, []string{"DEFINE", "UNDEF", "IFDEF", "IFNDEF", "ELSE", "ENDIF", "COMMAND", "TRANSLATE"})
	return word, s[len(w):]
}

// wordLength is how many bytes of a word a text begins with.
func wordLength(s string) int {
	for i := range len(s) {
		c := s[i]
		begins := c == '_' || c >= 'A' && c <= 'Z' || c >= 'a' && c <= 'z'
		if !begins && (i == 0 || c < '0' || c > '9') {
			return i
		}
	}
	return len(s)
}

// withoutComment cuts off a directive's comment; false: what is left has a ; or a line feed, and so is no directive.
func withoutComment(s string) (string, bool) {
	for i := 0; i < len(s); i++ {
		switch c := s[i]; {
		case c == '"' || c == '\'':
			i += textLength(s[i:]) - 1
		case c == ';' || c == '\n':
			return "", false
		case strings.HasPrefix(s[i:], "&&"):
			return s[:i], !strings.Contains(s[i:], "\n")
		}
	}
	return s, true
}

// textLength is how many bytes the text has that begins here, with its quotes, or all if it does not end.
func textLength(s string) int {
	n := strings.IndexByte(s[1:], s[0])
	if n < 0 {
		return len(s)
	}
	return n + 2
}

// tokensOf reads tokens that stand in one line, without its end.
func tokensOf(s string) ([]api.Token, bool) {
	if strings.Contains(s, "\n") {
		return nil, false
	}
	drop := 0
	if strings.HasPrefix(strings.TrimLeft(s, blanks), "*") { // behind a word this is no comment
		s = "X " + s
		drop = 1
	}
	l, _, e := lex.Lex(s)
	if e != api.OK {
		return nil, false
	}
	if len(l) > 0 {
		l = l[drop : len(l)-1]
	}
	return l, true
}

// oneName reads a name that stands alone.
func oneName(s string) (string, bool) {
	s, ok := withoutComment(s)
	if !ok {
		return "", false
	}
	l, ok := tokensOf(s)
	if !ok || len(l) != 1 || l[0].Kind != api.KWord || !lex.IsName(l[0].Text) {
		return "", false
	}
	return l[0].Text, true
}

// definition reads what stands behind #DEFINE.
func definition(s string) (string, []api.Token, bool) {
	s, ok := withoutComment(s)
	if !ok {
		return "", nil, false
	}
	l, ok := tokensOf(s)
	if !ok || len(l) == 0 || l[0].Kind != api.KWord || !lex.IsName(l[0].Text) {
		return "", nil, false
	}
	return l[0].Text, l[1:], true
}

// readForm reads what stands behind #COMMAND or #TRANSLATE.
func readForm(s string) (form, bool) {
	s, ok := withoutComment(s)
	if !ok {
		return form{}, false
	}
	r := reader{s: s, marker: patternMarker, toArrow: true}
	if !r.read() || !r.arrow || !isPattern(r.row) {
		return form{}, false
	}
	made := form{pattern: r.row}
	made.result, ok = readResult(r.s[r.at:])
	return made, ok
}

// readPattern reads a pattern that stands alone.
func readPattern(s string) ([]part, bool) {
	s, ok := withoutComment(s)
	if !ok {
		return nil, false
	}
	r := reader{s: s, marker: patternMarker}
	ok = r.read() && isPattern(r.row)
	return r.row, ok
}

// readResult reads a result.
func readResult(s string) ([]part, bool) {
	s, ok := withoutComment(s)
	if !ok {
		return nil, false
	}
	r := reader{s: s, marker: resultMarker}
	ok = r.read()
	return r.row, ok
}

// reader reads a row of parts.
type reader struct {
	s       string
	at      int
	begin   int // of what has not been put into the row yet
	marker  func(s string) (part, int)
	toArrow bool
	arrow   bool
	row     []part
	outer   []part // the row around an optional part
	inside  bool
}

// read goes on to the end, or behind an arrow.
func (r *reader) read() bool {
	for r.at < len(r.s) && !r.arrow {
		if !r.next() {
			return false
		}
	}
	return !r.inside && (r.arrow || r.flush())
}

func (r *reader) next() bool {
	rest := r.s[r.at:]
	switch {
	case rest[0] == '"' || rest[0] == '\'':
		r.at += textLength(rest)
		return true
	case strings.HasPrefix(rest, "\\[") || strings.HasPrefix(rest, "\\]") || strings.HasPrefix(rest, "\\<"):
		return r.put(part{token: api.Token{Kind: api.KSign, Text: rest[1:2]}}, 2)
	case rest[0] == '[':
		return r.open()
	case rest[0] == ']':
		return r.close()
	case strings.HasPrefix(rest, "=>") && r.toArrow:
		r.arrow = true
		return !r.inside && r.flush() && r.skip(2)
	}
	if p, n := r.marker(rest); n > 0 {
		return r.put(p, n)
	}
	r.at++
	for _, sign := range [...]string{":=", "==", "<>", "!=", "<=", ">=", "->"} {
		if strings.HasPrefix(rest, sign) {
			r.at++
			break
		}
	}
	return true
}

func (r *reader) skip(n int) bool {
	r.at += n
	r.begin = r.at
	return true
}

// flush puts the tokens that were passed into the row.
func (r *reader) flush() bool {
	l, ok := tokensOf(r.s[r.begin:r.at])
	for _, t := range l {
		r.row = append(r.row, part{token: t})
	}
	return ok
}

func (r *reader) put(p part, n int) bool {
	if !r.flush() {
		return false
	}
	r.row = append(r.row, p)
	return r.skip(n)
}

func (r *reader) open() bool {
	if r.inside || !r.flush() {
		return false
	}
	r.inside = true
	r.outer, r.row = r.row, nil
	return r.skip(1)
}

func (r *reader) close() bool {
	if !r.inside || !r.flush() {
		return false
	}
	r.inside = false
	r.row = append(r.outer, part{kind: optional, row: r.row})
	return r.skip(1)
}

// markerName reads a name and returns it in capitals, with its length.
func markerName(s string) (string, int) {
	n := wordLength(s)
	name, _ := tokensOf(s[:n])
	if len(name) != 1 || !lex.IsName(name[0].Text) {
		return "", 0
	}
	return name[0].Text, n
}

// patternMarker reads a marker of a pattern; the length 0: there is none.
func patternMarker(s string) (part, int) {
	if s[0] != '<' {
		return part{}, 0
	}
	name, n := markerName(s[1:])
	if n == 0 {
		return part{}, 0
	}
	rest := s[1+n:]
	switch {
	case strings.HasPrefix(rest, ">"):
		return part{kind: marker, name: name}, n + 2
	case strings.HasPrefix(rest, ",...>"):
		return part{kind: list, name: name}, n + 6
	case strings.HasPrefix(rest, ":"):
		inner, _, ok := strings.Cut(rest[1:], ">")
		words, areWords := choices(inner)
		if ok && areWords {
			return part{kind: choice, name: name, words: words}, n + len(inner) + 3
		}
	}
	return part{}, 0
}

// choices reads words with commas between them.
func choices(s string) ([]string, bool) {
	var words []string
	for _, w := range strings.Split(s, ",") {
		l, ok := tokensOf(w)
		if !ok || w == "" || wordLength(w) != len(w) {
			return nil, false
		}
		words = append(words, l[0].Text)
	}
	return words, true
}

// resultMarker reads a marker of a result; the length 0: there is none.
func resultMarker(s string) (part, int) {
	for _, f := range [...]struct {
		kind          int
		before, after string
	}{{marker, "<", ">"}, {asText, "<\"", "\">"}, {asTruth, "<.", ".>"}} {
		inner, ok := strings.CutPrefix(s, f.before)
		if !ok {
			continue
		}
		name, n := markerName(inner)
		if n > 0 && strings.HasPrefix(inner[n:], f.after) {
			return part{kind: f.kind, name: name}, len(f.before) + n + len(f.after)
		}
	}
	return part{}, 0
}

// isPattern tells whether a row is a pattern.
func isPattern(row []part) bool {
	return beginsRight(row) && hasPatternParts(row) && !hasTwice(row, map[string]bool{})
}

func beginsRight(row []part) bool {
	return len(row) > 0 && row[0].kind == literal
}

func hasPatternParts(row []part) bool {
	return !slices.ContainsFunc(row, func(p part) bool {
		switch p.kind {
		case literal:
			return p.token.Kind != api.KWord && p.token.Kind != api.KSign
		case optional:
			return !beginsRight(p.row) || !hasPatternParts(p.row)
		}
		return false
	})
}

// hasTwice tells whether two markers have one name.
func hasTwice(row []part, seen map[string]bool) bool {
	for _, p := range row {
		if p.name != "" && seen[p.name] || hasTwice(p.row, seen) {
			return true
		}
		seen[p.name] = true
	}
	return false
}
