package read_test

import (
	"regexp"
	"slices"
	"strings"

	"cosigner/api"
)

// grammar is the chapter's grammar as it stands there, but that some tokens have a role behind an @, so that what is asked of them beyond the grammar can be told, and that the two sorts of statements have semicolons of their own.
const grammar = `
system  = { class } .
class   = [ "deferred" ] "class" NAME@class [ "[" NAME@formal ":" NAME@ancestor { "," NAME@formal ":" NAME@ancestor } "]" ]
          [ "inherit" parent { parent } ] [ "create" names ] { clause } [ "invariant" asserts ] "end" .
parent  = NAME@ancestor [ "[" type { "," type } "]" ] [ "rename" name "as" name { "," name "as" name } ]
          [ "undefine" names ] [ "redefine" names ] [ "select" names ] ";" .
clause  = "feature" "{" NAME { "," NAME } "}" feature { feature } .
feature = name@feature [ "(" vars ")" ] [ ":" type ] ( ";"@attribute | "deferred" [ "require" asserts ] [ "ensure" asserts ] "end"
          | [ "require" asserts ] [ "local" vars ] "do" stmts [ "ensure" asserts ] [ "rescue" stmts ] "end" ) .
vars    = name ":" type { ";" name ":" type } .
names   = name { "," name } .
asserts = { name ":" expr ";" } .
stmts   = { act ";" | said ";"@said } .
type    = [ "detachable" ] [ "separate" ] NAME@type [ "["@actual type { "," type } "]" ] .
said    = expr .
act     = ( name | "Result" ) ":=" expr | "create" ( name | "Result" ) "." name [ args ]
          | "if" expr "then" stmts [ "else" stmts ] "end"
          | "from" stmts [ "invariant" asserts ] "until" expr [ "variant" expr ] "loop" stmts "end"
          | "check" asserts "end" | "separate" expr "as" name [ "when" expr ] "do" stmts "end"
          | "retry" | "raise" NUMBER@raised | "put" expr .
expr    = or [ "implies" expr ] .
or      = and { "or" and } .
and     = rel { "and" rel } .
rel     = sum [ ( "=" | "/=" | "<" | "<=" | ">" | ">=" ) sum ] .
sum     = prod { ( "+" | "-" ) prod } .
prod    = front { ( "*" | "//" | "%" ) front } .
front   = ( "-" | "not" | "old" ) front | call .
call    = primary { "." name [ args ] } .
primary = NUMBER | "True" | "False" | "Void" | "Current" | "Result" | name [ args ] | "(" expr ")"
          | "attached" call "as" name .
args    = "(" expr { "," expr } ")" .
`

// part is a part of a rule: one of several ways, or one thing behind another ('s'), what may stand there once ('o') or any number of times ('r'), a rule ('n'), or a token ('t').
type part struct {
	sort       byte
	word, role string
	parts      []*part
}

// rulesOf reads a grammar.
func rulesOf(text string) map[string]*part {
	words := regexp.MustCompile(`"[^"]*"(@[a-z]+)?|[A-Za-z]+(@[a-z]+)?|\S`).FindAllString(text, -1)
	rules := map[string]*part{}
	var ways func() *part
	next := func() string {
		w := words[0]
		words = words[1:]
		return w
	}
	one := func() *part {
		w := next()
		switch w {
		case "[", "{", "(":
			p := &part{sort: map[string]byte{"[": 'o', "{": 'r', "(": 's'}[w], parts: []*part{ways()}}
			next()
			return p
		}
		w, role, _ := strings.Cut(w, "@")
		if w[0] == '"' || w == "NAME" || w == "name" || w == "NUMBER" {
			return &part{sort: 't', word: strings.Trim(w, `"`), role: role}
		}
		return &part{sort: 'n', word: w}
	}
	ways = func() *part {
		all := &part{sort: 'a', parts: []*part{{sort: 's'}}}
		for !slices.Contains([]string{"]", "}", ")", "."}, words[0]) {
			if words[0] == "|" {
				next()
				all.parts = append(all.parts, &part{sort: 's'})
				continue
			}
			last := all.parts[len(all.parts)-1]
			last.parts = append(last.parts, one())
		}
		return all
	}
	for len(words) > 0 {
		name := next()
		next()
		rules[name] = ways()
		next()
	}
	return rules
}

// ahead is what must still be read: a part, and all that stands behind it.
type ahead struct {
	part *part
	rest *ahead
}

// machine tells by the rules which texts of tokens have others that go on. It goes all ways at once.
type machine struct {
	rules map[string]*part
	now   []*ahead
	done  bool
}

func newMachine(rules map[string]*part, start string) *machine {
	m := &machine{rules: rules}
	m.open(&ahead{part: &part{sort: 'n', word: start}})
	return m
}

// open puts down all tokens with which something can go on, and whether it can be at its end.
func (m *machine) open(s *ahead) {
	if s == nil {
		m.done = true
		return
	}
	p, rest := s.part, s.rest
	switch p.sort {
	case 't':
		m.now = append(m.now, s)
	case 'n':
		m.open(&ahead{m.rules[p.word], rest})
	case 'a':
		for _, q := range p.parts {
			m.open(&ahead{q, rest})
		}
	case 's':
		for _, q := range slices.Backward(p.parts) {
			rest = &ahead{q, rest}
		}
		m.open(rest)
	case 'o':
		m.open(rest)
		m.open(&ahead{p.parts[0], rest})
	case 'r':
		m.open(rest)
		m.open(&ahead{p.parts[0], s})
	}
}

// step takes a token, and returns the roles that it can have; or none if nothing goes on with it.
func (m *machine) step(t api.Token) ([]string, bool) {
	old := m.now
	m.now, m.done = nil, false
	var roles []string
	found := false
	for _, s := range old {
		if isWord(s.part.word, t) {
			found = true
			roles = append(roles, s.part.role)
			m.open(s.rest)
		}
	}
	return roles, found
}

// isWord reports whether a token is what stands in the grammar.
func isWord(word string, t api.Token) bool {
	switch word {
	case "NAME":
		return t.Kind == api.TkClass
	case "name":
		return t.Kind == api.TkName
	case "NUMBER":
		return t.Kind == api.TkNumber
	}
	return word == t.Text
}

// measure finds the first error of tokens by the grammar, and by what the chapter asks of some of them.
type measure struct {
	tokens  []api.Token
	roles   [][]string
	formals []string
}

// errorOf returns the index of the first wrong token (the number of all, if the text must go on), and the error.
func errorOf(rules map[string]*part, start string, tokens []api.Token, formals ...string) (int, api.Errno) {
	m := newMachine(rules, start)
	w := &measure{formals: formals}
	for i, t := range tokens {
		roles, is := m.step(t)
		w.tokens, w.roles = append(w.tokens, t), append(w.roles, roles)
		if !is {
			return i, api.ErrForm
		}
		if err := w.errorOf(i); err != api.OK {
			return i, err
		}
	}
	if !m.done {
		return len(tokens), api.ErrForm
	}
	return 0, api.OK
}

func (w *measure) is(i int, texts ...string) bool {
	return 0 <= i && i < len(w.tokens) && slices.Contains(texts, w.tokens[i].Text)
}

// errorOf returns the error of the last token, which the grammar allows.
func (w *measure) errorOf(i int) api.Errno {
	t := w.tokens[i]
	for _, role := range w.roles[i] {
		switch role {
		case "class", "formal":
			if w.is(i, "INTEGER", "BOOLEAN", "ANY", "NONE") {
				return api.ErrName
			}
			if role == "class" {
				w.formals = nil
			} else {
				w.formals = append(w.formals, t.Text)
			}
		case "ancestor":
			if w.is(i, "INTEGER", "BOOLEAN", "NONE") {
				return api.ErrName
			}
		case "type":
			return w.errorOfType(i)
		case "actual":
			if w.is(i-1, "INTEGER", "BOOLEAN") || slices.Contains(w.formals, w.tokens[i-1].Text) {
				return api.ErrForm
			}
		case "raised":
			if len(t.Text) > 2 {
				return api.ErrLimit
			}
		case "attribute":
			j := i
			for !slices.Contains(w.roles[j], "feature") {
				j--
			}
			if !w.is(j+1, ":") {
				return api.ErrForm
			}
		case "said":
			if !w.isCall(w.statement(i)) {
				return api.ErrForm
			}
		}
	}
	return api.OK
}

func (w *measure) errorOfType(i int) api.Errno {
	switch {
	case w.is(i, "NONE"):
		return api.ErrName
	case w.is(i, "INTEGER", "BOOLEAN"):
		if w.is(i-1, "detachable", "separate") {
			return api.ErrForm
		}
	case slices.Contains(w.formals, w.tokens[i].Text):
		if w.is(i-1, "separate") {
			return api.ErrForm
		}
	}
	return api.OK
}

// statement returns the tokens of the statement, an expression, that ends ahead of a semicolon.
func (w *measure) statement(end int) []api.Token {
	from := end
	for from > 0 && !w.is(from-1, ";", "do", "then", "else", "from", "loop", "rescue") {
		from--
	}
	return w.tokens[from:end]
}

// isCall reports whether the tokens of an expression are a call: a name with arguments, or what ends with one behind a dot, without an operator outside of brackets.
func (w *measure) isCall(l []api.Token) bool {
	for {
		open := brackets(l)
		if len(l) == 0 || l[0].Text != "(" || open[0] != len(l)-1 {
			break
		}
		l = l[1 : len(l)-1]
	}
	var outside []string
	for i := 0; i < len(l); i++ {
		if l[i].Text == "(" {
			i = brackets(l)[i]
			if len(outside) > 0 {
				continue
			}
			outside = append(outside, "()")
			continue
		}
		outside = append(outside, l[i].Text)
		switch l[i].Text {
		case "implies", "or", "and", "=", "/=", "<", "<=", ">", ">=", "+", "-", "*", "//", "%", "not", "old":
			return false
		}
	}
	n := len(outside)
	return n == 1 && l[0].Kind == api.TkName || n > 2 && outside[n-2] == "."
}

// brackets returns for each opening bracket where it is closed.
func brackets(l []api.Token) map[int]int {
	pairs := map[int]int{}
	var open []int
	for i, t := range l {
		switch t.Text {
		case "(":
			open = append(open, i)
		case ")":
			last := len(open) - 1
			pairs[open[last]] = i
			open = open[:last]
		}
	}
	return pairs
}
