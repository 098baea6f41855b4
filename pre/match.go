package pre

import (
	"slices"
	"strings"

	"cabinetry/api"
	"cabinetry/lex"
)

// matcher matches a pattern with tokens.
type matcher struct {
	line   []token
	shorts bool // words of the pattern also match shortened
	found  map[string][]token
}

// matched tells what the markers of a pattern have when it is matched from a token on, and where it ends.
func matched(pattern []part, line []token, at int, shorts bool) (map[string][]token, int, bool) {
	m := matcher{line: line, shorts: shorts, found: map[string][]token{}}
	nothing := func(api.Token) bool { return false }
	end, ok := m.row(pattern, at, nothing)
	return m.found, end, ok
}

// fits tells whether a token is one of a pattern.
func (m *matcher) fits(p part, t api.Token) bool {
	if p.token.Kind == t.Kind && p.token.Text == t.Text {
		return true
	}
	if !m.shorts || p.token.Kind != api.KWord || t.Kind != api.KWord {
		return false
	}
	_, ok := lex.Full(t.Text, []string{p.token.Text})
	return ok
}

func (m *matcher) fitsAt(p part, at int) bool {
	return at < len(m.line) && m.fits(p, m.line[at].Token)
}

func isChosen(p part, t api.Token) bool {
	return t.Kind == api.KWord && slices.Contains(p.words, t.Text)
}

// may tells whether a token may come next where a row goes on; behind tells it for what follows the row.
func (m *matcher) may(row []part, t api.Token, behind func(api.Token) bool) bool {
	for _, p := range row {
		switch p.kind {
		case literal:
			return m.fits(p, t)
		case choice:
			return isChosen(p, t)
		case optional:
			if m.fits(p.row[0], t) {
				return true
			}
		default:
			return false
		}
	}
	return behind(t)
}

// row matches a row from a token on and returns where it ends.
func (m *matcher) row(row []part, at int, behind func(api.Token) bool) (int, bool) {
	ok := true
	for i := 0; i < len(row) && ok; i++ {
		p := row[i]
		rest := func(t api.Token) bool { return m.may(row[i+1:], t, behind) }
		switch p.kind {
		case literal:
			ok = m.fitsAt(p, at)
			at++
		case choice:
			ok = at < len(m.line) && isChosen(p, m.line[at].Token)
			if ok {
				m.found[p.name] = m.line[at : at+1]
			}
			at++
		case optional:
			n := optionals(row[i:])
			at, ok = m.options(row[i:i+n], row[i+n:], at, behind)
			i += n - 1
		default:
			at, ok = m.take(p, at, rest)
		}
	}
	return at, ok
}

// optionals is how many optional parts stand next to each other.
func optionals(row []part) int {
	for i, p := range row {
		if p.kind != optional {
			return i
		}
	}
	return len(row)
}

// options matches optional parts in any order, each once at most.
func (m *matcher) options(group, row []part, at int, behind func(api.Token) bool) (int, bool) {
	left := slices.Clone(group)
	for {
		i := slices.IndexFunc(left, func(p part) bool { return m.fitsAt(p.row[0], at) })
		if i < 0 {
			return at, true
		}
		p := left[i]
		left = slices.Delete(left, i, i+1)
		next := func(t api.Token) bool {
			return slices.ContainsFunc(left, func(p part) bool { return m.fits(p.row[0], t) }) || m.may(row, t, behind)
		}
		end, ok := m.row(p.row, at, next)
		if !ok {
			return 0, false
		}
		at = end
	}
}

// take gives a marker its tokens, up to one that may come next.
func (m *matcher) take(p part, at int, next func(api.Token) bool) (int, bool) {
	end, depth := at, 0
	for ; end < len(m.line); end++ {
		t := m.line[end].Token
		if depth == 0 && (next(t) || isSign(t, ",") && p.kind != list) {
			break
		}
		depth = max(depth+bracket(t), 0)
	}
	for p.kind == list && end > at && isSign(m.line[end-1].Token, ",") {
		end--
	}
	if end == at {
		return 0, false
	}
	m.found[p.name] = m.line[at:end]
	return end, true
}

func isSign(t api.Token, text string) bool {
	return t.Kind == api.KSign && t.Text == text
}

// bracket is 1 for an opening bracket, -1 for a closing one.
func bracket(t api.Token) int {
	if t.Kind != api.KSign || len(t.Text) != 1 {
		return 0
	}
	switch {
	case strings.Contains("([{", t.Text):
		return 1
	case strings.Contains(")]}", t.Text):
		return -1
	}
	return 0
}

// filled makes the tokens of a result.
func filled(row []part, has map[string][]token) []token {
	var out []token
	for _, p := range row {
		switch p.kind {
		case literal:
			out = append(out, token{Token: p.token})
		case marker:
			out = append(out, has[p.name]...)
		case asText:
			out = append(out, token{Token: api.Token{Kind: api.KStr, Text: write(has[p.name])}})
		case asTruth:
			t := api.Token{Kind: api.KSign, Text: ".F."}
			if len(has[p.name]) > 0 {
				t.Text = ".T."
			}
			out = append(out, token{Token: t})
		case optional:
			if isThere(p.row, has) {
				out = append(out, filled(p.row, has)...)
			}
		}
	}
	return out
}

// isThere tells whether a marker in a row has something.
func isThere(row []part, has map[string][]token) bool {
	return slices.ContainsFunc(row, func(p part) bool { return len(has[p.name]) > 0 })
}

// write writes tokens as lex.Join does, also where a line may not begin so.
func write(l []token) string {
	var out []string
	for _, t := range l {
		out = append(out, spelled(t.Token))
	}
	return strings.Join(out, " ")
}

func spelled(t api.Token) string {
	switch {
	case t.Kind == api.KDate && t.Text == "":
		return "{}"
	case t.Kind == api.KDate:
		return "{^" + t.Text[:4] + "-" + t.Text[4:6] + "-" + t.Text[6:] + "}"
	case t.Kind == api.KStr && strings.Contains(t.Text, "\""):
		return "'" + t.Text + "'"
	case t.Kind == api.KStr:
		return "\"" + t.Text + "\""
	}
	return t.Text
}

// plain makes tokens that came out of no name.
func plain(l []api.Token) []token {
	var out []token
	for _, t := range l {
		out = append(out, token{Token: t})
	}
	return out
}
