package tree

import "cabinetry/api"

// program reads all tokens.
func (p *parser) program() []api.Proc {
	l := []api.Proc{{Name: mainName, Body: p.body()}}
	for !p.isUsedUp() {
		proc := api.Proc{Fn: p.takeWord("FUNCTION")}
		if !proc.Fn {
			p.needWord("PROCEDURE")
		}
		proc.Name = p.name()
		if p.takeSign("(") {
			if !p.isSign(")") {
				proc.P = p.names()
			}
			p.needSign(")")
		}
		p.needEnd()
		proc.Body = p.body()
		l = append(l, proc)
	}
	return l
}

// body reads the statements of a procedure.
func (p *parser) body() []api.Stmt {
	var l []api.Stmt
	for !p.isUsedUp() {
		if w := p.first(); w == "PROCEDURE" || w == "FUNCTION" {
			break
		}
		l = append(l, p.stmt())
	}
	return l
}

// block reads the end of a line, and statements up to one of the words that may stand behind them.
func (p *parser) block(enders ...string) []api.Stmt {
	p.needEnd()
	var l []api.Stmt
	for !p.ends(enders) {
		if p.isUsedUp() {
			p.fail()
		}
		l = append(l, p.stmt())
	}
	return l
}

func (p *parser) ends(enders []string) bool {
	first := p.first()
	for _, w := range enders {
		if first == w {
			return true
		}
	}
	return false
}

// first is the word of statements as which a first word of a line is read, or empty.
func (p *parser) first() string {
	for _, sign := range [...]string{"=", ":=", "[", "->"} {
		if p.isAt(1, api.KSign, sign) {
			return ""
		}
	}
	return p.wordAt(0)
}

// beginners are what reads the statements that begin with a word, behind this word.
func beginners() map[string]func(p *parser) api.Stmt {
	return map[string]func(p *parser) api.Stmt{
		"LOCAL": (*parser).declare, "PRIVATE": (*parser).declare, "PUBLIC": (*parser).declare, "STATIC": (*parser).declare,
		"IF": (*parser).ifs, "DO": (*parser).do, "FOR": (*parser).loop, "LOOP": (*parser).plain, "EXIT": (*parser).plain,
		"RETURN": (*parser).leave, "BREAK": (*parser).leave, "BEGIN": (*parser).guard,
		"SELECT": (*parser).selects, "USE": (*parser).use, "GO": (*parser).goes, "SKIP": (*parser).skip, "SEEK": (*parser).seek,
		"LOCATE": (*parser).scoped, "DELETE": (*parser).scoped, "RECALL": (*parser).scoped, "REPLACE": (*parser).replace,
		"CONTINUE": (*parser).bare, "PACK": (*parser).bare, "ZAP": (*parser).bare, "APPEND": (*parser).appends,
		"COUNT": (*parser).count, "SUM": (*parser).sum, "INDEX": (*parser).index, "SET": (*parser).set,
	}
}

func (p *parser) stmt() api.Stmt {
	if w := p.first(); w != "" {
		read, ok := beginners()[w]
		if !ok {
			p.fail()
		}
		p.at++
		s := read(p)
		return s
	}
	if p.takeSign("?") {
		s := api.Stmt{Op: api.SPrint}
		if !p.isEnd() {
			s.X = p.list()
		}
		p.needEnd()
		return s
	}
	return p.setOrCall()
}

// last is the word of statements that was taken last.
func (p *parser) last() string {
	return p.wordAt(-1)
}

func (p *parser) setOrCall() api.Stmt {
	var x api.Expr
	if p.isSign("&") {
		x = p.macro()
	} else {
		name := p.name()
		if p.isSign("(") {
			x = p.call(name)
			p.needEnd()
			return api.Stmt{Op: api.SEval, X: []api.Expr{x}}
		}
		x = p.target(name)
	}
	if !p.takeSign("=") {
		p.needSign(":=")
	}
	v := p.expr()
	p.needEnd()
	return api.Stmt{Op: api.SSet, X: []api.Expr{x, v}}
}

// target reads what stands behind the name of a target.
func (p *parser) target(name string) api.Expr {
	x := api.Expr{Op: api.XName, S: name}
	if p.takeSign("->") {
		field := api.Expr{Op: api.XName, S: p.name()}
		return api.Expr{Op: api.XAlias, S: name, L: []api.Expr{field}}
	}
	if p.takeSign("[") {
		place := p.expr()
		p.needSign("]")
		return api.Expr{Op: api.XIndex, L: []api.Expr{x, place}}
	}
	return x
}

func (p *parser) declare() api.Stmt {
	s := api.Stmt{Op: api.SDeclare, S: p.last()}
	for {
		s.P = append(s.P, p.name())
		x := constant(api.Value{})
		if p.takeSign(":=") {
			x = p.expr()
		}
		s.X = append(s.X, x)
		if !p.takeSign(",") {
			break
		}
	}
	p.needEnd()
	return s
}

func (p *parser) ifs() api.Stmt {
	s := api.Stmt{Op: api.SIf}
	for {
		s.X = append(s.X, p.expr())
		s.B = append(s.B, p.block("ELSEIF", "ELSE", "ENDIF"))
		if !p.takeWord("ELSEIF") {
			break
		}
	}
	if p.takeWord("ELSE") {
		s.B = append(s.B, p.block("ENDIF"))
	}
	p.needWord("ENDIF")
	p.needEnd()
	return s
}

func (p *parser) do() api.Stmt {
	switch p.oneOf("CASE", "WHILE") {
	case "CASE":
		return p.cases()
	case "WHILE":
		s := api.Stmt{Op: api.SWhile, X: []api.Expr{p.expr()}}
		s.B = [][]api.Stmt{p.block("ENDDO")}
		p.needWord("ENDDO")
		p.needEnd()
		return s
	}
	s := api.Stmt{Op: api.SDo, S: p.name()}
	if p.takeWord("WITH") {
		s.X = p.list()
	}
	p.needEnd()
	return s
}

func (p *parser) cases() api.Stmt {
	s := api.Stmt{Op: api.SIf}
	p.needEnd()
	p.needWord("CASE")
	for {
		s.X = append(s.X, p.expr())
		s.B = append(s.B, p.block("CASE", "OTHERWISE", "ENDCASE"))
		if !p.takeWord("CASE") {
			break
		}
	}
	if p.takeWord("OTHERWISE") {
		s.B = append(s.B, p.block("ENDCASE"))
	}
	p.needWord("ENDCASE")
	p.needEnd()
	return s
}

func (p *parser) loop() api.Stmt {
	s := api.Stmt{Op: api.SFor, S: p.name()}
	p.needSign("=")
	s.X = append(s.X, p.expr())
	p.needWord("TO")
	s.X = append(s.X, p.expr())
	if p.takeWord("STEP") {
		s.X = append(s.X, p.expr())
	} else {
		s.X = append(s.X, constant(api.Value{Kind: api.Num, N: 1}))
	}
	s.B = [][]api.Stmt{p.block("NEXT")}
	p.needWord("NEXT")
	p.needEnd()
	return s
}

// plain reads LOOP and EXIT.
func (p *parser) plain() api.Stmt {
	s := api.Stmt{Op: api.SLoop}
	if p.last() == "EXIT" {
		s.Op = api.SExit
	}
	p.needEnd()
	return s
}

// leave reads RETURN and BREAK.
func (p *parser) leave() api.Stmt {
	s := api.Stmt{Op: api.SReturn}
	if p.last() == "BREAK" {
		s.Op = api.SBreak
	}
	s.X = p.optional()
	p.needEnd()
	return s
}

func (p *parser) guard() api.Stmt {
	s := api.Stmt{Op: api.SGuard}
	p.needWord("SEQUENCE")
	s.B = append(s.B, p.block("RECOVER", "END"))
	if p.takeWord("RECOVER") {
		if p.takeWord("USING") {
			s.S = p.name()
		}
		s.B = append(s.B, p.block("END"))
	}
	p.needWord("END")
	p.needEnd()
	return s
}
