package pre

import (
	"slices"
	"strings"

	"cabinetry/api"
	"cabinetry/lex"
)

const maxReplacements = 40

// rules are what lines are replaced by.
type rules struct {
	names        map[string][]api.Token
	commands     []command
	translations []translation
}

func newRules() *rules {
	return &rules{names: map[string][]api.Token{}}
}

func (r *rules) count() int {
	return len(r.names) + len(r.commands) + len(r.translations)
}

// add puts a rule in; false: the directive is none.
func (r *rules) add(word, rest string) bool {
	if word == "DEFINE" {
		name, l, ok := definition(rest)
		if ok {
			r.names[name] = l
		}
		return ok
	}
	f, ok := readForm(rest)
	switch {
	case !ok:
	case word == "COMMAND":
		r.commands = append(r.commands, command{f})
	case word == "TRANSLATE":
		r.translations = append(r.translations, translation{f})
	default:
		return false
	}
	return ok
}

// replace replaces a line until nothing matches.
func (r *rules) replace(line []token) ([]token, api.Errno) {
	for n := 0; ; n++ {
		next, ok := r.step(line)
		if !ok {
			return line, api.OK
		}
		if n == maxReplacements || len(write(next)) > api.MaxSource {
			return nil, api.ErrLarge
		}
		line = next
	}
}

// step does one replacement; false: nothing matches.
func (r *rules) step(line []token) ([]token, bool) {
	for i, t := range line {
		by, ok := r.names[t.Text]
		if ok && t.Kind == api.KWord && !slices.Contains(t.out, t.Text) {
			return spliced(line, i, i+1, r.outOf(t, by)), true
		}
	}
	for _, t := range slices.Backward(r.translations) {
		for i := range line {
			if has, end, ok := matched(t.pattern, line, i, false); ok {
				return spliced(line, i, end, filled(t.result, has)), true
			}
		}
	}
	for _, c := range slices.Backward(r.commands) {
		if has, end, ok := matched(c.pattern, line, 0, true); ok && end == len(line) {
			return filled(c.result, has), true
		}
	}
	return nil, false
}

// outOf are the tokens that come out of a name.
func (r *rules) outOf(name token, by []api.Token) []token {
	out := append(slices.Clone(name.out), name.Text)
	l := plain(by)
	for i := range l {
		l[i].out = out
	}
	return l
}

func spliced(line []token, from, to int, by []token) []token {
	return slices.Concat(line[:from], by, line[to:])
}

// finish writes a line that was replaced.
func finish(line []token) (string, api.Errno) {
	if len(line) == 0 {
		return "", api.OK
	}
	var l []api.Token
	for _, t := range line {
		l = append(l, t.Token)
	}
	s, e := lex.Join(append(l, api.Token{Kind: api.KEnd}))
	if e == api.ErrLarge {
		return "", e
	}
	if e != api.OK { // the rules have made what is no row of tokens
		return "", api.ErrSyntax
	}
	return strings.TrimSuffix(s, "\n"), api.OK
}

// branch is an #IFDEF that has not ended.
type branch struct {
	taken, hadElse bool
}

// expander goes through a text.
type expander struct {
	*rules
	out      strings.Builder
	branches []branch
	ignored  int // how many #IFDEFs in lines that are left out have not ended
}

// expand replaces all lines of a text.
func expand(s string) (*expander, api.Errno) {
	if len(s) > api.MaxSource {
		return nil, api.ErrLarge
	}
	x := &expander{rules: newRules()}
	if e := x.lines(s); e != api.OK {
		return nil, e
	}
	if len(x.branches) > 0 {
		return nil, api.ErrSyntax
	}
	if _, _, e := lex.Lex(x.out.String()); e != api.OK {
		return nil, api.ErrLarge
	}
	return x, api.OK
}

func (x *expander) lines(s string) api.Errno {
	begin, had := 0, false // of the line that goes on to the place
	for at := 0; at < len(s); {
		line, _, _ := strings.Cut(s[at:], "\n")
		isDirective := begin == at && strings.HasPrefix(strings.TrimLeft(line, blanks), "#")
		at = min(at+len(line)+1, len(s))
		e := api.OK
		if isDirective {
			e = x.directive(line)
		} else {
			var goesOn bool
			goesOn, had = lineEnd(line, had)
			if goesOn && had && at < len(s) {
				continue
			}
			e = x.line(s[begin:at])
		}
		if e != api.OK {
			return e
		}
		begin, had = at, false
	}
	return api.OK
}

// lineEnd tells whether a line goes on, and whether it, or those that went on to it, have a token.
func lineEnd(line string, had bool) (bool, bool) {
	for i := 0; i < len(line); i++ {
		rest := line[i:]
		switch {
		case strings.ContainsRune(blanks, rune(rest[0])):
		case strings.HasPrefix(rest, "&&") || rest[0] == '*' && !had:
			return false, had
		case rest[0] == ';':
			behind := strings.TrimLeft(rest[1:], blanks)
			return behind == "" || strings.HasPrefix(behind, "&&"), had
		case rest[0] == '"' || rest[0] == '\'':
			i += textLength(rest) - 1
			had = true
		default:
			had = true
		}
	}
	return false, had
}

func (x *expander) isLeftOut() bool {
	return len(x.branches) > 0 && !x.branches[len(x.branches)-1].taken
}

func (x *expander) line(s string) api.Errno {
	if x.isLeftOut() {
		return api.OK
	}
	l, _, e := lex.Lex(s)
	if e != api.OK {
		return e
	}
	if len(l) == 0 {
		return api.OK
	}
	done, e := x.replace(plain(l[:len(l)-1]))
	if e != api.OK {
		return e
	}
	made, e := finish(done)
	if e != api.OK {
		return e
	}
	if made != "" {
		x.out.WriteString(made + "\n")
	}
	return api.OK
}

func (x *expander) directive(line string) api.Errno {
	word, rest := splitDirective(line)
	if x.isLeftOut() && !x.concerns(word) {
		return api.OK
	}
	ok := false
	switch word {
	case "IFDEF", "IFNDEF":
		var name string
		name, ok = oneName(rest)
		_, isDefined := x.names[name]
		x.branches = append(x.branches, branch{taken: isDefined == (word == "IFDEF")})
	case "ELSE":
		ok = isNothing(rest) && x.otherwise()
	case "ENDIF":
		ok = isNothing(rest) && len(x.branches) > 0
		if ok {
			x.branches = x.branches[:len(x.branches)-1]
		}
	case "UNDEF":
		var name string
		name, ok = oneName(rest)
		delete(x.names, name)
	case "DEFINE", "COMMAND", "TRANSLATE":
		ok = x.add(word, rest)
	}
	if !ok {
		return api.ErrSyntax
	}
	if x.count() > api.MaxRules {
		return api.ErrLarge
	}
	return api.OK
}

// concerns tells whether a directive that stands in lines that are left out belongs to the #IFDEF that leaves them out; it counts those that belong to others.
func (x *expander) concerns(word string) bool {
	switch word {
	case "IFDEF", "IFNDEF":
		x.ignored++
		return false
	case "ELSE":
		return x.ignored == 0
	case "ENDIF":
		if x.ignored > 0 {
			x.ignored--
			return false
		}
		return true
	}
	return false
}

// isNothing tells whether only blanks and a comment stand behind a directive's word.
func isNothing(s string) bool {
	s, ok := withoutComment(s)
	return ok && strings.Trim(s, blanks) == ""
}

// otherwise goes to the other half of an #IFDEF.
func (x *expander) otherwise() bool {
	if len(x.branches) == 0 {
		return false
	}
	b := &x.branches[len(x.branches)-1]
	if b.hadElse {
		return false
	}
	b.taken, b.hadElse = !b.taken, true
	return true
}

// oneLine reads a line of tokens, without its end.
func oneLine(s string) ([]token, api.Errno) {
	l, _, e := lex.Lex(s)
	if e != api.OK {
		return nil, e
	}
	if len(l) == 0 {
		return nil, api.OK
	}
	last := len(l) - 1
	if slices.ContainsFunc(l[:last], func(t api.Token) bool { return t.Kind == api.KEnd }) {
		return nil, api.ErrSyntax
	}
	return plain(l[:last]), api.OK
}
