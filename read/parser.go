package read

import (
	"slices"

	"cosigner/api"
)

// parser reads tokens from the left, by the rules of the grammar. A rule that meets a wrong token panics with an api.Slip, which attempt recovers: no rule has to look at what another one came to.
type parser struct {
	tokens  []api.Token
	next    int
	end     api.Place
	formals map[string]bool
	levels  map[string]int
}

// newParser returns a parser of tokens behind which the text ends at a place.
func newParser(tokens []api.Token, end api.Place, formals ...string) *parser {
	p := &parser{tokens: tokens, end: end, levels: levels()}
	p.declare(formals)
	return p
}

// attempt returns what a rule reads, or the error at which it gives up.
func attempt[T any](rule func() T) (tree T, slip api.Slip) {
	defer func() {
		if wrong := recover(); wrong != nil {
			slip = wrong.(api.Slip)
		}
	}()
	return rule(), slip
}

// declare makes names the formals that types may use from here on.
func (p *parser) declare(names []string) {
	p.formals = map[string]bool{}
	for _, s := range names {
		p.formals[s] = true
	}
}

// peek returns the next token. Behind the last one this is one without a text, at the place of the text's end, so that all rules end there by themselves.
func (p *parser) peek() api.Token {
	if p.ended() {
		return api.Token{At: p.end}
	}
	return p.tokens[p.next]
}

func (p *parser) ended() bool {
	return p.next == len(p.tokens)
}

// slip returns the error of the next token.
func (p *parser) slip(err api.Errno) api.Slip {
	return api.Slip{At: p.peek().At, Err: err}
}

// is reports whether the next token has one of some texts.
func (p *parser) is(texts ...string) bool {
	return slices.Contains(texts, p.peek().Text)
}

// took takes the next token if it has a text.
func (p *parser) took(text string) bool {
	if p.is(text) {
		p.next++
		return true
	}
	return false
}

// expect takes a token that must have a text.
func (p *parser) expect(text string) {
	if !p.took(text) {
		panic(p.slip(api.ErrForm))
	}
}

// word takes a token that must be of a kind, and returns its text.
func (p *parser) word(kind int) string {
	t := p.peek()
	if t.Kind != kind {
		panic(p.slip(api.ErrForm))
	}
	p.next++
	return t.Text
}

// name reads a small name.
func (p *parser) name() string {
	return p.word(api.TkName)
}

// names reads small names.
func (p *parser) names() []string {
	return list(p, ",", p.name)
}

// capital reads a capital name that is none of some.
func (p *parser) capital(banned ...string) string {
	if p.is(banned...) {
		panic(p.slip(api.ErrName))
	}
	return p.word(api.TkClass)
}

// client reads the name of a class that may be any.
func (p *parser) client() string {
	return p.capital()
}

// list reads one part or more, with a separator between two of them.
func list[T any](p *parser, separator string, part func() T) []T {
	l := []T{part()}
	for p.took(separator) {
		l = append(l, part())
	}
	return l
}

// option reads what belongs to a text that may stand there, if it does, and reports that.
func (p *parser) option(text string, read func()) bool {
	is := p.took(text)
	if is {
		read()
	}
	return is
}

// finish makes sure that nothing is left.
func (p *parser) finish() {
	if !p.ended() {
		panic(p.slip(api.ErrForm))
	}
}

// limit makes sure that what begins at a place is not nested too deep.
func limit(first api.Place, depth int) {
	if depth > api.MaxNest {
		panic(api.Slip{At: first, Err: api.ErrLimit})
	}
}
