package read

import (
	"cosigner/api"
	"cosigner/lex"
)

// rules are how trees of a sort are measured, written, read and compared.
type rules[T any] struct {
	depth func(T) int
	write func(*writer, T)
	read  func(*parser) T
	same  func(a, b T) bool
}

func classRules() rules[api.Class] {
	return rules[api.Class]{classDepth, (*writer).class, (*parser).class, Same}
}

func typeRules() rules[api.Type] {
	return rules[api.Type]{typeDepth, (*writer).typed, (*parser).wholeType, sameType}
}

func exprRules() rules[api.Expr] {
	return rules[api.Expr]{Depth, (*writer).expr, (*parser).wholeExpr, sameExpr}
}

func stmtsRules() rules[[]api.Stmt] {
	depth := func(l []api.Stmt) int { return deepest(l, stmtDepth) }
	return rules[[]api.Stmt]{depth, (*writer).stmts, (*parser).wholeStmts, sameStmts}
}

// tokensOf returns the tokens of a tree that uses some formals. A tree may be any that Go allows, so what is written down is read again: if that is not the same tree, no text is this one's.
func tokensOf[T any](tree T, r rules[T], formals ...string) ([]api.Token, api.Errno) {
	if r.depth(tree) > api.MaxNest {
		return nil, api.ErrLimit
	}
	w := &writer{levels: levels()}
	r.write(w, tree)
	tokens := shaped(w.texts)
	p := newParser(tokens, api.Place{}, formals...)
	again, slip := attempt(func() T { return r.read(p) })
	if slip.Err != api.OK || !r.same(tree, again) {
		return nil, api.ErrForm
	}
	return tokens, api.OK
}

// shaped returns texts as tokens. One that is no token has no kind, and no rule takes it.
func shaped(texts []string) []api.Token {
	var tokens []api.Token
	for _, s := range texts {
		kind, _ := lex.Shape(s)
		tokens = append(tokens, api.Token{Kind: kind, Text: s})
	}
	return tokens
}

// withFormals returns names, and behind them those of the formals in a type.
func withFormals(names []string, t api.Type) []string {
	if t.Kind == api.TyFormal {
		names = append(names, t.Name)
	}
	for _, a := range t.Args {
		names = withFormals(names, a)
	}
	return names
}
