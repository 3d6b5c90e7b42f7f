package read

import (
	"cosigner/api"
	"cosigner/lex"
)

// wholeExpr reads all tokens as an expression.
func (p *parser) wholeExpr() api.Expr {
	first := p.peek().At
	e := p.expr()
	p.finish()
	limit(first, Depth(e))
	return e
}

func (p *parser) expr() api.Expr {
	return p.binary(levelImplies)
}

// binary reads an expression whose operators outside of brackets are of a level at least.
func (p *parser) binary(level int) api.Expr {
	if level == levelFront {
		return p.front()
	}
	left, right := sides(level)
	e := p.binary(level + 1)
	for p.levels[p.peek().Text] == level {
		operator := p.peek().Text
		p.next++
		other := p.binary(right)
		e = api.Expr{Kind: api.ExBin, Name: operator, Kids: []api.Expr{e, other}}
		if left > level {
			break
		}
	}
	return e
}

func (p *parser) front() api.Expr {
	switch {
	case p.took("-"):
		return api.Expr{Kind: api.ExUn, Name: "-", Kids: []api.Expr{p.front()}}
	case p.took("not"):
		return api.Expr{Kind: api.ExUn, Name: "not", Kids: []api.Expr{p.front()}}
	case p.took("old"):
		return api.Expr{Kind: api.ExOld, Kids: []api.Expr{p.front()}}
	}
	return p.call()
}

func (p *parser) call() api.Expr {
	e := p.primary()
	for p.took(".") {
		target := e
		e = p.plainCall()
		e.N = 1
		e.Kids = append([]api.Expr{target}, e.Kids...)
	}
	return e
}

// plainCall reads a call without a target.
func (p *parser) plainCall() api.Expr {
	e := api.Expr{Kind: api.ExCall, Name: p.name()}
	p.option("(", func() {
		e.Kids = list(p, ",", p.expr)
		p.expect(")")
	})
	return e
}

func (p *parser) primary() api.Expr {
	t := p.peek()
	if t.Kind == api.TkName {
		return p.plainCall()
	}
	p.next++
	if t.Kind == api.TkNumber {
		n, _ := lex.Value(t.Text)
		return api.Expr{Kind: api.ExInt, N: n}
	}
	switch t.Text {
	case "True":
		return api.Expr{Kind: api.ExBool, N: 1}
	case "False":
		return api.Expr{Kind: api.ExBool}
	case "Void":
		return api.Expr{Kind: api.ExVoid}
	case "Current":
		return api.Expr{Kind: api.ExCurrent}
	case "Result":
		return api.Expr{Kind: api.ExResult}
	case "attached":
		return p.attached()
	case "(":
		e := p.expr()
		p.expect(")")
		return e
	}
	panic(api.Slip{At: t.At, Err: api.ErrForm})
}

// attached reads what stands behind the word.
func (p *parser) attached() api.Expr {
	e := p.call()
	p.expect("as")
	return api.Expr{Kind: api.ExAttached, Name: p.name(), Kids: []api.Expr{e}}
}
