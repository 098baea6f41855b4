package tree

import (
	"strconv"

	"cabinetry/api"
	"cabinetry/lex"
	"cabinetry/val"
)

// parser reads tokens from the left. It is left by a panic with wrong.
type parser struct {
	l      []api.Token
	at     int
	words  []string
	levels [levelCount]map[string]string
}

// wrong is the number of the token that does not fit.
type wrong int

// The levels of operators that are grouped from the left.
const (
	levelOr = iota
	levelAnd
	levelCompare
	levelSum
	levelProduct
	levelCount
)

func newParser(l []api.Token) *parser {
	return &parser{l: l, words: Words(), levels: levels()}
}

// levels tells for each level how its signs are written in nodes.
func levels() [levelCount]map[string]string {
	return [levelCount]map[string]string{
		levelOr:  {".OR.": ".OR."},
		levelAnd: {".AND.": ".AND."},
		levelCompare: {
			"=": "=", "==": "==", "<>": "<>", "#": "<>", "!=": "<>", "<": "<", ">": ">", "<=": "<=", ">=": ">=", "$": "$",
		},
		levelSum:     {"+": "+", "-": "-"},
		levelProduct: {"*": "*", "/": "/", "%": "%"},
	}
}

func (p *parser) fail() {
	panic(wrong(p.at))
}

// attempt does what may leave the parser, and returns the token that does not fit.
func attempt(read func()) (at int, ok bool) {
	defer func() {
		if r := recover(); r != nil {
			w, isWrong := r.(wrong)
			if !isWrong {
				panic(r)
			}
			at, ok = int(w), false
		}
	}()
	read()
	return 0, true
}

func (p *parser) isUsedUp() bool {
	return p.at >= len(p.l)
}

// is tells whether a token of this kind and text stands n tokens further on.
func (p *parser) isAt(n, kind int, text string) bool {
	if p.at+n >= len(p.l) {
		return false
	}
	t := p.l[p.at+n]
	return t.Kind == kind && t.Text == text
}

func (p *parser) isSign(text string) bool {
	return p.isAt(0, api.KSign, text)
}

func (p *parser) isEnd() bool {
	return p.isAt(0, api.KEnd, "")
}

// takeSign takes a sign if it stands here.
func (p *parser) takeSign(text string) bool {
	if !p.isSign(text) {
		return false
	}
	p.at++
	return true
}

func (p *parser) needSign(text string) {
	if !p.takeSign(text) {
		p.fail()
	}
}

func (p *parser) needEnd() {
	if !p.isEnd() {
		p.fail()
	}
	p.at++
}

// kind is the kind of the token here; -1: they are used up.
func (p *parser) kind() int {
	if p.isUsedUp() {
		return -1
	}
	return p.l[p.at].Kind
}

// word is the word of statements for which the token n further on stands, or empty.
func (p *parser) wordAt(n int) string {
	if p.at+n >= len(p.l) || p.l[p.at+n].Kind != api.KWord {
		return ""
	}
	w, _ := lex.Full(p.l[p.at+n].Text, p.words)
	return w
}

func (p *parser) takeWord(word string) bool {
	if p.wordAt(0) != word {
		return false
	}
	p.at++
	return true
}

func (p *parser) needWord(word string) {
	if !p.takeWord(word) {
		p.fail()
	}
}

// oneOf takes one of some words and returns it; empty: none of them stands here.
func (p *parser) oneOf(words ...string) string {
	for _, w := range words {
		if p.takeWord(w) {
			return w
		}
	}
	return ""
}

func (p *parser) name() string {
	if p.kind() != api.KWord || !lex.IsName(p.l[p.at].Text) {
		p.fail()
	}
	p.at++
	return p.l[p.at-1].Text
}

func (p *parser) names() []string {
	l := []string{p.name()}
	for p.takeSign(",") {
		l = append(l, p.name())
	}
	return l
}

func (p *parser) list() []api.Expr {
	l := []api.Expr{p.expr()}
	for p.takeSign(",") {
		l = append(l, p.expr())
	}
	return l
}

// optional reads an expression unless the line ends here.
func (p *parser) optional() []api.Expr {
	if p.isEnd() {
		return nil
	}
	return []api.Expr{p.expr()}
}

func (p *parser) expr() api.Expr {
	return p.level(levelOr)
}

// level reads operands of a level with the signs between them.
func (p *parser) level(k int) api.Expr {
	if k == levelCount {
		return p.power()
	}
	if k == levelCompare && (p.isSign(".NOT.") || p.isSign("!")) {
		p.at++
		return unary(".NOT.", p.level(levelCompare))
	}
	x := p.level(k + 1)
	for p.kind() == api.KSign {
		op, ok := p.levels[k][p.l[p.at].Text]
		if !ok {
			break
		}
		p.at++
		x = binary(op, x, p.level(k+1))
		if k == levelCompare {
			break
		}
	}
	return x
}

func unary(op string, x api.Expr) api.Expr {
	return api.Expr{Op: api.XUn, S: op, L: []api.Expr{x}}
}

func binary(op string, x, y api.Expr) api.Expr {
	return api.Expr{Op: api.XBin, S: op, L: []api.Expr{x, y}}
}

func constant(v api.Value) api.Expr {
	return api.Expr{Op: api.XConst, V: v}
}

func (p *parser) power() api.Expr {
	x := p.unary()
	if p.takeSign("^") {
		return binary("^", x, p.power())
	}
	return x
}

func (p *parser) unary() api.Expr {
	if p.takeSign("-") {
		return unary("-", p.unary())
	}
	x := p.prim()
	for p.takeSign("[") {
		place := p.expr()
		p.needSign("]")
		x = api.Expr{Op: api.XIndex, L: []api.Expr{x, place}}
	}
	return x
}

func (p *parser) prim() api.Expr {
	switch p.kind() {
	case api.KNum:
		n, _ := strconv.Atoi(p.l[p.at].Text)
		return p.constant(api.Value{Kind: api.Num, N: n})
	case api.KStr:
		if len(p.l[p.at].Text) > api.MaxText {
			p.fail()
		}
		return p.constant(api.Value{Kind: api.Text, S: p.l[p.at].Text})
	case api.KDate:
		day, _ := val.Unstamp(p.l[p.at].Text)
		return p.constant(api.Value{Kind: api.Date, N: day})
	case api.KWord:
		return p.named()
	case api.KSign:
		return p.signed()
	}
	p.fail()
	return api.Expr{}
}

func (p *parser) constant(v api.Value) api.Expr {
	p.at++
	return constant(v)
}

// named reads what begins with a name.
func (p *parser) named() api.Expr {
	name := p.name()
	if p.isSign("(") {
		return p.call(name)
	}
	if p.takeSign("->") {
		return p.alias(name)
	}
	return api.Expr{Op: api.XName, S: name}
}

func (p *parser) call(name string) api.Expr {
	x := api.Expr{Op: api.XCall, S: name}
	p.needSign("(")
	if !p.isSign(")") {
		x.L = p.list()
	}
	p.needSign(")")
	return x
}

// alias reads what stands behind an alias and its arrow.
func (p *parser) alias(name string) api.Expr {
	x := api.Expr{Op: api.XAlias, S: name}
	if p.isSign("(") {
		x.L = []api.Expr{p.inner()}
	} else {
		x.L = []api.Expr{{Op: api.XName, S: p.name()}}
	}
	return x
}

// inner reads an expression in parentheses.
func (p *parser) inner() api.Expr {
	p.needSign("(")
	x := p.expr()
	p.needSign(")")
	return x
}

// signed reads what begins with a sign.
func (p *parser) signed() api.Expr {
	switch p.l[p.at].Text {
	case ".T.":
		return p.constant(api.Value{Kind: api.Truth, N: 1})
	case ".F.":
		return p.constant(api.Value{Kind: api.Truth})
	case ".NULL.":
		return p.constant(api.Value{})
	case "(":
		return p.inner()
	case "{":
		return p.braces()
	case "&":
		return p.macro()
	case "@":
		p.at++
		return api.Expr{Op: api.XRef, S: p.name()}
	}
	p.fail()
	return api.Expr{}
}

// braces reads a list or a block.
func (p *parser) braces() api.Expr {
	p.needSign("{")
	var x api.Expr
	if p.takeSign("|") {
		x.Op = api.XBlock
		if !p.isSign("|") {
			x.P = p.names()
		}
		p.needSign("|")
		x.L = []api.Expr{p.expr()}
	} else {
		x.Op = api.XList
		x.L = p.list()
	}
	p.needSign("}")
	return x
}

func (p *parser) macro() api.Expr {
	p.needSign("&")
	if p.isSign("(") {
		return api.Expr{Op: api.XMacro, L: []api.Expr{p.inner()}}
	}
	x := api.Expr{Op: api.XMacro, S: p.name()}
	p.takeSign(".")
	return x
}
