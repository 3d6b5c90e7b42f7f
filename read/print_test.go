package read_test

import (
	"slices"
	"strings"
	"testing"

	"cosigner/api"
	"cosigner/read"
)

// P2.5: classes that have just these texts.
func TestPrint(t *testing.T) {
	for _, text := range []string{
		"",
		"class A end\n",
		"class A end\nclass B end\ndeferred class A end\n",
		"class A [ G : ANY ] end\n",
		"class A [ G : ANY , H : B ] inherit B ; create make end\n",
		"class A inherit B [ G ] rename a as b , c as d undefine a , b redefine c select d , e ; C ; end\n",
		"class A inherit B [ INTEGER , detachable separate C [ D ] ] redefine a ; end\n",
		"class A create a , b , c end\n",
		"class A feature { ANY } x : INTEGER ; y : detachable separate LIST [ BOOLEAN , A ] ; feature { A , NONE } z : BOOLEAN ; feature { ANY } w : INTEGER ; end\n",
		"class A feature { ANY , B } x : INTEGER ; feature { B , ANY } y : INTEGER ; feature { ANY } z : INTEGER ; feature { ANY , B } w : INTEGER ; end\n",
		"class A feature { ANY } f do end g : INTEGER do end h ( x : INTEGER ) do end i ( x : INTEGER ; y : A ) : A do end end\n",
		"class A feature { ANY } f deferred end g : INTEGER deferred require t : a ; ensure u : b ; v : c ; end end\n",
		"class A feature { ANY } f require t : a ; u : b ; local x : INTEGER ; y : A do a ; ensure t : a ; rescue retry ; end end\n",
		"class A feature { ANY } f do rescue end g do a ; rescue end h do ensure t : a ; rescue end end\n",
		"class A invariant t : True ; u : a implies b ; end\n",
		"class A feature { ANY } x : INTEGER ; invariant t : x > 0 ; end\nclass B end\n",
		"class A feature { ANY } f do x := 1 ; Result := a ; a . b ; f ( a , b ) ; create x . make ; create Result . make ( 1 , 2 ) ; end end\n",
		"class A feature { ANY } f do if a then end ; if a then b ; end ; if a then else b ; end ; if a then b ; c ; else b ; c ; end ; end end\n",
		"class A feature { ANY } f do from until a loop end ; from x := 1 ; invariant t : a ; until a variant b loop c ; end ; end end\n",
		"class A feature { ANY } f do check end ; check t : a ; u : b ; end ; separate a as x do end ; separate a . b as x when a do x . b ; end ; end end\n",
		"class A feature { ANY } f do retry ; raise 0 ; raise 99 ; put a ; put - 1 ; end end\n",
	} {
		l, _, err := read.Parse(text)
		if err != api.OK {
			t.Errorf("%q: %d", text, err)
		}
		if s, err := read.Print(l); s != text || err != api.OK {
			t.Errorf("%q: %q %d", text, s, err)
		}
		if err, at := read.Whole(l); err != api.OK || at != 0 {
			t.Errorf("%q: %d %d", text, err, at)
		}
	}
}

// P2.5: what is left out, or put together, of other texts.
func TestPrintOfOtherTexts(t *testing.T) {
	for text, want := range map[string]string{
		"class A end -- A": "class A end\n", "class A invariant end": "class A end\n", "class A feature{ANY}f deferred require ensure end end": "class A feature { ANY } f deferred end end\n",
		"class A feature { ANY } f require do ensure end end":                                                   "class A feature { ANY } f do end end\n",
		"class A feature { ANY } f do ensure rescue end end":                                                    "class A feature { ANY } f do rescue end end\n",
		"class A feature { ANY } f do if ( a ) then else end ; end end":                                         "class A feature { ANY } f do if a then end ; end end\n",
		"class A feature { ANY } f do from invariant until ((a)) loop end ; end end":                            "class A feature { ANY } f do from until a loop end ; end end\n",
		"class A feature { ANY } a : INTEGER ; feature { ANY } b : INTEGER ; feature { A } c do end end":        "class A feature { ANY } a : INTEGER ; b : INTEGER ; feature { A } c do end end\n",
		"class A invariant t : ( ( a ) + b ) * ( c ) ; end":                                                     "class A invariant t : ( a + b ) * c ; end\n",
		"class A feature { ANY } f do ( a ) . b ; ( a ) ; f ( ( a ) ) ; put ( - ( a ) ) ; end end class B\nend": "class A feature { ANY } f do a . b ; a ; f ( a ) ; put - a ; end end\nclass B end\n",
	} {
		l, _, _ := read.Parse(text)
		if s, err := read.Print(l); s != want || err != api.OK {
			t.Errorf("%q: %q %d, want %q", text, s, err, want)
		}
	}
}

// namesOf returns names whose text, with commas, has so many bytes, from 21 on.
func namesOf(bytes int) []string {
	var l []string
	for ; bytes > 2*api.MaxName+3; bytes -= api.MaxName + 3 {
		l = append(l, strings.Repeat("a", api.MaxName))
	}
	half := (bytes - 3) / 2
	return append(l, strings.Repeat("b", half), strings.Repeat("c", bytes-3-half))
}

// creator returns a class with names for creation: its text has 20 bytes, and 3 tokens, more than these with their commas.
func creator(names []string) api.Class {
	return api.Class{Name: "A", Create: names}
}

// P2.5: the limits of texts, at them and beyond.
func TestLimitsOfPrint(t *testing.T) {
	const end = "class A end\n"
	limits := func(bytes, tokens int, l ...api.Class) {
		t.Helper()
		want := api.OK
		if bytes > api.MaxText || tokens > api.MaxTokens {
			want = api.ErrLimit
		}
		s, err := read.Print(l)
		if err != want || want == api.OK && len(s) != bytes || want == api.OK && len(words(t, s)) != tokens || want != api.OK && s != "" {
			t.Errorf("%d bytes, %d tokens: %d %d", bytes, tokens, len(s), err)
		}
		if err, at := read.Whole(l); err != api.OK || at != 0 {
			t.Error(err, at)
		}
	}
	for bytes := api.MaxText - 2; bytes <= api.MaxText+2; bytes++ {
		names := namesOf(bytes - 20)
		limits(bytes, 2*len(names)+3, creator(names))
		names = namesOf(bytes - 20 - len(end))
		limits(bytes, 2*len(names)+6, creator(names), classOf("A"))
		limits(bytes, 2*len(names)+6, classOf("A"), creator(names))
		two := namesOf(bytes/2 - 20)
		rest := namesOf(bytes - bytes/2 - 20)
		limits(bytes, 2*len(two)+2*len(rest)+6, creator(two), creator(rest))
	}
	for tokens := api.MaxTokens - 3; tokens <= api.MaxTokens+3; tokens++ {
		one := creator(slices.Repeat([]string{"a"}, (tokens-3)/2))
		one.Deferred = tokens%2 == 0
		limits(4*len(one.Create)+17+9*(1-tokens%2), tokens, one)
		half := len(one.Create) / 2
		two := creator(slices.Repeat([]string{"a"}, half-1))
		two.Deferred = one.Deferred
		rest := creator(slices.Repeat([]string{"a"}, len(one.Create)-half))
		limits(4*len(two.Create)+4*len(rest.Create)+34+9*(1-tokens%2), tokens+1, two, rest)
	}
	// Each class is short enough by itself.
	limits(15*(4*900+17), 15*(2*900+3), slices.Repeat([]api.Class{creator(slices.Repeat([]string{"a"}, 900))}, 15)...)
}

// P2.6, with the chapter's examples: brackets at each level, on each side.
func TestExprText(t *testing.T) {
	for _, text := range []string{
		"1", "0", "1099511627776", "True", "False", "Void", "Current", "Result", "a", "f ( a )", "f ( a , b , 1 )", "a . b", "a . f ( b , c ) . d", "Current . a", "1 . a", "f ( a + b , ( a = b ) = c )", "f ( a implies b )",
		"- ( ( a + b ) * c )", "a - b - c", "a - ( b - c )", "a implies b implies c", "( a implies b ) implies c", "a or b and not c = - 2",
		"- a", "not a", "old a", "- - a", "not old - a", "- a . b", "( - a ) . b", "old a . b", "( old a ) . b", "- ( a + b )", "- ( a * b )", "- a * b", "a * - b", "a - - b", "not ( a = b )", "not a = b", "not ( a and b )", "old ( a + b )", "old a + b", "not ( a implies b )",
		"( a + b ) . c", "( a = b ) . c . d", "( a implies b ) . f ( c )", "( not a ) . b", "a . f ( b ) . c", "attached a as b", "attached a . b as c", "attached attached a as b as c", "attached a as b . c", "attached ( a + b ) as c", "attached ( - a ) as b",
		"attached ( old a ) as b", "attached a as b and c", "not attached a as b", "- attached a as b . c", "attached ( attached a as b and c ) as d", "attached Void as a", "attached f ( a ) as b", "attached a as b . c . d", "attached attached a as b . c as d",
	} {
		e, _, _ := read.ExprOf(text)
		if s, err := read.ExprText(e); s != text || err != api.OK {
			t.Errorf("%q: %q %d", text, s, err)
		}
		prints(t, "put "+text+" ;")
		prints(t, "if "+text+" then end ;")
		prints(t, "x := "+text+" ;")
		prints(t, "check t : "+text+" ; end ;")
		prints(t, "from until "+text+" variant "+text+" loop end ;")
		prints(t, "separate "+text+" as a when "+text+" do end ;")
		prints(t, "f ( "+text+" , "+text+" ) ;")
	}
}

// prints fails the test unless a text is just what its statements are written as.
func prints(t *testing.T, text string) {
	t.Helper()
	l, _, _ := read.StmtsOf(text)
	if s, err := read.StmtsText(l); s != text || err != api.OK {
		t.Errorf("%q: %q %d", text, s, err)
	}
}

// sample returns expressions of each level, those that bind least first.
func sample() [][]api.Expr {
	var l [][]api.Expr
	for _, ones := range operators {
		var level []api.Expr
		for _, one := range ones {
			level = append(level, bin(a, one, b))
		}
		l = append(l, level)
	}
	return append(l, []api.Expr{un("-", a), un("not", a), old(a)}, []api.Expr{dot(a, "b"), dot(a, "f", c)},
		[]api.Expr{num(1), yes, no, void, current, result, a, call("f", a), attached(a, "b")})
}

// textIn returns an expression's text, within brackets or not.
func textIn(brackets bool, e api.Expr) string {
	s, _ := read.ExprText(e)
	if brackets {
		return "( " + s + " )"
	}
	return s
}

// P2.6: on which side of which operator, and where else, which expressions have brackets.
func TestBrackets(t *testing.T) {
	has := func(e api.Expr, want string) {
		t.Helper()
		if s, err := read.ExprText(e); s != want || err != api.OK {
			t.Errorf("%+v: %q %d, want %q", e, s, err, want)
		}
	}
	for i, level := range sample() {
		for _, e := range level {
			for j, ones := range operators {
				for _, one := range ones {
					has(bin(e, one, c), textIn(i < j || i == j && (j == 0 || j == 3), e)+" "+one+" c")
					has(bin(c, one, e), "c "+one+" "+textIn(i < j || i == j && j != 0, e))
				}
			}
			has(un("-", e), "- "+textIn(i < 6, e))
			has(un("not", e), "not "+textIn(i < 6, e))
			has(old(e), "old "+textIn(i < 6, e))
			has(dot(e, "f"), textIn(i < 7, e)+" . f")
			has(dot(e, "f", e, e), textIn(i < 7, e)+" . f ( "+textIn(false, e)+" , "+textIn(false, e)+" )")
			has(attached(e, "x"), "attached "+textIn(i < 7, e)+" as x")
			has(call("f", e), "f ( "+textIn(false, e)+" )")
		}
	}
}

// P2.6
func TestTypeText(t *testing.T) {
	for want, y := range map[string]api.Type{
		"INTEGER": integer, "BOOLEAN": boolean, "A": typed("A"), "ANY": typed("ANY"), "G": formal("G"), "detachable G": detachable(formal("G")), "detachable separate A": detachable(separate(typed("A"))),
		"separate A": separate(typed("A")), "detachable LIST [ G ]": detachable(typed("LIST", formal("G"))), "A [ INTEGER , B [ detachable C ] , BOOLEAN ]": typed("A", integer, typed("B", detachable(typed("C"))), boolean),
		"A [ G , H , detachable G ]": typed("A", formal("G"), formal("H"), detachable(formal("G"))), "A [ A ]": typed("A", typed("A")),
	} {
		if s, err := read.TypeText(y); s != want || err != api.OK {
			t.Errorf("%+v: %q %d, want %q", y, s, err, want)
		}
	}
}

// P2.6
func TestStmtsText(t *testing.T) {
	for _, l := range [][]api.Stmt{nil, {}} {
		if s, err := read.StmtsText(l); s != "" || err != api.OK {
			t.Errorf("%q %d", s, err)
		}
	}
	for _, text := range []string{
		"a ;", "a ; b ;", "Result := a ; x := y ;", "create a . b ; create Result . f ( a ) ;", "if a then end ;", "if a then b ; else if b then a ; end ; end ;", "from until a loop end ;",
		"from a ; b ; invariant t : a ; u : b ; until a variant b loop a ; b ; end ;", "check end ;", "check t : a ; end ; retry ;", "separate a as b do end ;", "separate a . b as c when a and b do a ; end ;", "raise 99 ; put 1 ;",
		"( - a ) . b ;", "attached a as b . c ;", "( a = b ) . f ( c ) ;", "Result . a ;", "1 . a ;",
	} {
		prints(t, text)
	}
}

// P2.6: the limits, and the order of the errors.
func TestLimitsOfTexts(t *testing.T) {
	deep, deepType, at := a, typed("A"), api.MaxNest
	for range at - 1 {
		deep, deepType = un("-", deep), typed("B", deepType)
	}
	limits := func(name string, s string, err, want api.Errno) {
		t.Helper()
		if err != want || (s == "") != (want != api.OK) {
			t.Errorf("%s: %.30q %d, want %d", name, s, err, want)
		}
	}
	expr := func(name string, e api.Expr, want api.Errno) {
		t.Helper()
		s, err := read.ExprText(e)
		limits(name, s, err, want)
	}
	stmts := func(name string, want api.Errno, l ...api.Stmt) {
		t.Helper()
		s, err := read.StmtsText(l)
		limits(name, s, err, want)
	}
	typeOf := func(name string, y api.Type, want api.Errno) {
		t.Helper()
		s, err := read.TypeText(y)
		limits(name, s, err, want)
	}
	bad, badType := num(-1), typed("a")
	expr("deep", deep, api.OK)
	expr("too deep", un("-", deep), api.ErrLimit)
	expr("too deep, and wrong", call("A", deep), api.ErrLimit)
	expr("too deep beside a wrong one", call("f", bad, deep), api.ErrLimit)
	expr("too deep where no parts should be", api.Expr{Kind: api.ExInt, Kids: []api.Expr{deep}}, api.ErrLimit)
	typeOf("deep", deepType, api.OK)
	typeOf("too deep", typed("A", integer, deepType), api.ErrLimit)
	typeOf("too deep, and wrong", typed("a", badType, deepType), api.ErrLimit)
	typeOf("too deep where no parts should be", api.Type{Kind: api.TyInt, Args: []api.Type{deepType}}, api.ErrLimit)
	stmts("deep", api.OK, put(deep.Kids[0]))
	stmts("too deep", api.ErrLimit, retry, put(deep))
	stmts("too deep, and wrong", api.ErrLimit, raise(100), assign("A", deep), put(bad))
	stmts("too deep where no parts should be", api.ErrLimit, api.Stmt{Kind: api.StRetry, Exprs: []api.Expr{deep}})
	for _, part := range []api.Stmt{{Exprs: []api.Expr{deep}}, {Tags: []api.Clause{clause("t", deep)}}, {Init: []api.Stmt{put(deep.Kids[0])}}, {Body: []api.Stmt{put(deep.Kids[0])}}, {Else: []api.Stmt{put(deep.Kids[0])}}} {
		stmts("a part that is too deep", api.ErrLimit, part)
	}

	// f ( a , .. , a ) has two tokens for each argument, and 2; put a ; has 3.
	many := slices.Repeat([]api.Expr{a}, (api.MaxTokens-2)/2)
	more := append(many[1:len(many):len(many)], un("-", a))
	expr("MaxTokens tokens", call("f", many...), api.OK)
	expr("one token more", call("f", more...), api.ErrLimit)
	expr("one token more, and a wrong part", call("f", append(more, bad)...), api.ErrForm)
	puts := slices.Repeat([]api.Stmt{put(a)}, api.MaxTokens/3)
	stmts("MaxTokens tokens", api.OK, puts...)
	stmts("one token more", api.ErrLimit, append(puts[1:len(puts):len(puts)], put(un("-", a)))...)
	types := slices.Repeat([]api.Type{typed("A")}, (api.MaxTokens-2)/2)
	typeOf("MaxTokens tokens", typed("A", types...), api.OK)
	typeOf("one token more", typed("A", append(types[1:len(types):len(types)], detachable(typed("A")))...), api.ErrLimit)
	typeOf("one token more, and a wrong part", typed("A", append(types[1:len(types):len(types)], detachable(typed("a")))...), api.ErrForm)

	// f ( .. ) and A [ .. ] have 6 bytes more than what is within the brackets, put f ( .. ) ; has 12.
	for bytes := api.MaxText - 2; bytes <= api.MaxText+2; bytes++ {
		want := api.OK
		if bytes > api.MaxText {
			want = api.ErrLimit
		}
		var exprs []api.Expr
		var types []api.Type
		for _, s := range namesOf(bytes - 6) {
			exprs = append(exprs, call(s))
			types = append(types, typed(strings.ToUpper(s)))
		}
		expr("many bytes", call("f", exprs...), want)
		typeOf("many bytes", typed("A", types...), want)
		exprs = nil
		for _, s := range namesOf(bytes - 12) {
			exprs = append(exprs, call(s))
		}
		stmts("many bytes", want, put(call("f", exprs...)))
	}
}
