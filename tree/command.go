package tree

import "cabinetry/api"

// command is a command whose word was taken last.
func (p *parser) command() api.Stmt {
	return api.Stmt{Op: api.SCmd, S: p.last()}
}

// bare reads a command that is a word alone.
func (p *parser) bare() api.Stmt {
	s := p.command()
	p.needEnd()
	return s
}

func (p *parser) appends() api.Stmt {
	s := p.command()
	p.needWord("BLANK")
	p.needEnd()
	return s
}

func (p *parser) selects() api.Stmt {
	s := p.command()
	s.P = []string{p.name()}
	p.needEnd()
	return s
}

func (p *parser) use() api.Stmt {
	s := p.command()
	if !p.isEnd() {
		s.P = []string{p.name()}
		if p.takeWord("ALIAS") {
			s.P = append(s.P, p.name())
		}
	}
	p.needEnd()
	return s
}

func (p *parser) goes() api.Stmt {
	s := p.command()
	if w := p.wordAt(0); (w == "TOP" || w == "BOTTOM") && p.isAt(1, api.KEnd, "") {
		s.T = w
		p.at++
	} else {
		s.X = []api.Expr{p.expr()}
	}
	p.needEnd()
	return s
}

func (p *parser) skip() api.Stmt {
	s := p.command()
	s.X = p.optional()
	p.needEnd()
	return s
}

func (p *parser) seek() api.Stmt {
	s := p.command()
	s.X = []api.Expr{p.expr()}
	p.needEnd()
	return s
}

// scoped reads a command that has a scope alone.
func (p *parser) scoped() api.Stmt {
	s := p.command()
	s.C = p.scope()
	p.needEnd()
	return s
}

func (p *parser) replace() api.Stmt {
	s := p.command()
	for {
		s.P = append(s.P, p.name())
		p.needWord("WITH")
		s.X = append(s.X, p.expr())
		if !p.takeSign(",") {
			break
		}
	}
	s.C = p.scope()
	p.needEnd()
	return s
}

func (p *parser) count() api.Stmt {
	s := p.command()
	p.needWord("TO")
	s.P = []string{p.name()}
	s.C = p.scope()
	p.needEnd()
	return s
}

func (p *parser) sum() api.Stmt {
	s := p.command()
	s.X = []api.Expr{p.expr()}
	p.needWord("TO")
	s.P = []string{p.name()}
	s.C = p.scope()
	p.needEnd()
	return s
}

func (p *parser) index() api.Stmt {
	s := p.command()
	p.needWord("ON")
	s.X = []api.Expr{p.expr()}
	p.needWord("TAG")
	s.P = []string{p.name()}
	if p.takeWord("FOR") {
		s.X = append(s.X, p.expr())
	}
	s.T = p.oneOf("UNIQUE", "CANDIDATE")
	if w := p.oneOf("DESCENDING"); w != "" {
		s.P = append(s.P, w)
	}
	p.needEnd()
	return s
}

func (p *parser) set() api.Stmt {
	s := api.Stmt{Op: api.SCmd, S: p.oneOf("ORDER", "FILTER", "RELATION", "EXACT", "DELETED")}
	switch s.S {
	case "":
		p.fail()
	case "EXACT", "DELETED":
		s.T = p.oneOf("ON", "OFF")
		if s.T == "" {
			p.fail()
		}
		p.needEnd()
		return s
	}
	p.needWord("TO")
	switch {
	case p.isEnd():
	case s.S == "ORDER":
		s.P = []string{p.name()}
	case s.S == "FILTER":
		s.X = []api.Expr{p.expr()}
	default:
		s.X = []api.Expr{p.expr()}
		p.needWord("INTO")
		s.P = []string{p.name()}
	}
	p.needEnd()
	return s
}

// scope reads the parts of a scope, each of which may stand once.
func (p *parser) scope() api.Scope {
	var c api.Scope
	for {
		w := p.wordAt(0)
		switch {
		case scopeKind(w) != api.Usual && c.Kind == api.Usual:
			p.at++
			c.Kind = scopeKind(w)
			if c.Kind == api.Next || c.Kind == api.Single {
				c.N = []api.Expr{p.expr()}
			}
		case w == "FOR" && c.For == nil:
			p.at++
			c.For = []api.Expr{p.expr()}
		case w == "WHILE" && c.While == nil:
			p.at++
			c.While = []api.Expr{p.expr()}
		default:
			return c
		}
	}
}

func scopeKind(word string) int {
	switch word {
	case "ALL":
		return api.All
	case "NEXT":
		return api.Next
	case "REST":
		return api.Rest
	case "RECORD":
		return api.Single
	}
	return api.Usual
}
