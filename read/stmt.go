package read

import (
	"cosigner/api"
	"cosigner/lex"
)

// mostRaised is the greatest number that raise may have.
const mostRaised = 99

// wholeStmts reads all tokens as statements.
func (p *parser) wholeStmts() []api.Stmt {
	first := p.peek().At
	l := p.stmts()
	p.finish()
	limit(first, deepest(l, stmtDepth))
	return l
}

// stmts reads statements up to a word that may stand behind them, or to the end.
func (p *parser) stmts() []api.Stmt {
	var l []api.Stmt
	for !p.ended() && !p.is("else", "end", "ensure", "invariant", "rescue", "until") {
		l = append(l, p.stmt())
		p.expect(";")
	}
	return l
}

// stmt reads a statement without its semicolon.
func (p *parser) stmt() api.Stmt {
	switch {
	case p.took("create"):
		return p.creation()
	case p.took("if"):
		return p.choice()
	case p.took("from"):
		return p.loop()
	case p.took("check"):
		s := api.Stmt{Kind: api.StCheck, Tags: p.asserts()}
		p.expect("end")
		return s
	case p.took("separate"):
		return p.separate()
	case p.took("retry"):
		return api.Stmt{Kind: api.StRetry}
	case p.took("raise"):
		return p.raise()
	case p.took("put"):
		return api.Stmt{Kind: api.StPut, Exprs: []api.Expr{p.expr()}}
	case p.assigns():
		return p.assignment()
	}
	e := p.expr()
	if e.Kind != api.ExCall {
		panic(p.slip(api.ErrForm))
	}
	return api.Stmt{Kind: api.StCall, Exprs: []api.Expr{e}}
}

// assigns reports whether an assignment begins here. Its second token tells, as an expression may begin with the same one.
func (p *parser) assigns() bool {
	if p.next+1 >= len(p.tokens) || p.tokens[p.next+1].Text != ":=" {
		return false
	}
	return p.is("Result") || p.peek().Kind == api.TkName
}

func (p *parser) assignment() api.Stmt {
	s := api.Stmt{Kind: api.StAssign, Name: p.entity()}
	p.expect(":=")
	s.Exprs = []api.Expr{p.expr()}
	return s
}

// entity reads the name of what becomes something.
func (p *parser) entity() string {
	if p.took("Result") {
		return "Result"
	}
	return p.name()
}

func (p *parser) creation() api.Stmt {
	s := api.Stmt{Kind: api.StMake, Name: p.entity()}
	p.expect(".")
	s.Exprs = []api.Expr{p.plainCall()}
	return s
}

func (p *parser) choice() api.Stmt {
	s := api.Stmt{Kind: api.StIf, Exprs: []api.Expr{p.expr()}}
	p.expect("then")
	s.Body = p.stmts()
	p.option("else", func() { s.Else = p.stmts() })
	p.expect("end")
	return s
}

func (p *parser) loop() api.Stmt {
	s := api.Stmt{Kind: api.StLoop, Init: p.stmts()}
	p.option("invariant", func() { s.Tags = p.asserts() })
	p.expect("until")
	s.Exprs = []api.Expr{p.expr()}
	p.option("variant", func() { s.Exprs = append(s.Exprs, p.expr()) })
	p.expect("loop")
	s.Body = p.stmts()
	p.expect("end")
	return s
}

func (p *parser) separate() api.Stmt {
	s := api.Stmt{Kind: api.StSep, Exprs: []api.Expr{p.expr()}}
	p.expect("as")
	s.Name = p.name()
	p.option("when", func() { s.Exprs = append(s.Exprs, p.expr()) })
	p.expect("do")
	s.Body = p.stmts()
	p.expect("end")
	return s
}

func (p *parser) raise() api.Stmt {
	wrong := p.slip(api.ErrLimit)
	n, _ := lex.Value(p.word(api.TkNumber))
	if n > mostRaised {
		panic(wrong)
	}
	return api.Stmt{Kind: api.StRaise, N: n}
}

// asserts reads the clauses of an assertion, which may be none.
func (p *parser) asserts() []api.Clause {
	var l []api.Clause
	for p.peek().Kind == api.TkName {
		c := api.Clause{Tag: p.name()}
		p.expect(":")
		c.Expr = p.expr()
		p.expect(";")
		l = append(l, c)
	}
	return l
}
