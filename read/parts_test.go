package read_test

import (
	"slices"
	"strings"
	"testing"

	"cosigner/api"
	"cosigner/read"
)

// expresses fails the test unless a text says an expression.
func expresses(t *testing.T, text string, want api.Expr) {
	t.Helper()
	if e, at, err := read.ExprOf(text); at != (api.Place{}) || err != api.OK || !alike(e, want) {
		t.Errorf("%q: %+v %v %d, want %+v", text, e, at, err, want)
	}
}

// P2.3, with the chapter's examples.
func TestExprOf(t *testing.T) {
	for text, want := range map[string]api.Expr{
		"0": num(0), "7": num(7), "1099511627776": num(1 << 40), "True": yes, "False": no, "Void": void, "Current": current, "Result": result,
		"a": a, " \na -- b\n": a, "f ( a )": call("f", a), "f(a,1)": call("f", a, num(1)), "f ( g ( a ) , b )": call("f", call("g", a), b),
		"a.b": dot(a, "b"), "a.f (b)": dot(a, "f", b), "f (b)": call("f", b), "x.f (1).g": dot(dot(call("x"), "f", num(1)), "g"),
		"f (a).g (b, c).a": dot(dot(call("f", a), "g", b, c), "a"), "Current.a": dot(current, "a"), "Result.a.b": dot(dot(result, "a"), "b"), "2 . a": dot(num(2), "a"),
		"Void.a": dot(void, "a"), "True.a": dot(yes, "a"), "(a + b).c": dot(bin(a, "+", b), "c"), "f (a + b)": call("f", bin(a, "+", b)),
		"attached a as b": attached(a, "b"), "attached a.b (c) as x": attached(dot(a, "b", c), "x"), "attached attached a as b as c": attached(attached(a, "b"), "c"),
		"attached a as b.c": dot(attached(a, "b"), "c"), "attached (a = b) as c": attached(bin(a, "=", b), "c"), "attached a as b and b.c": bin(attached(a, "b"), "and", dot(b, "c")),
		"- a": un("-", a), "- 2": un("-", num(2)), "not a": un("not", a), "old a": old(a), "- - a": un("-", un("-", a)), "not old - a": un("not", old(un("-", a))),
		"- a.b": un("-", dot(a, "b")), "(- a).b": dot(un("-", a), "b"), "old a.b (c)": old(dot(a, "b", c)), "not attached a as b": un("not", attached(a, "b")),
		"a - - b": bin(a, "-", un("-", b)), "a * - b": bin(a, "*", un("-", b)), "- a * b": bin(un("-", a), "*", b), "- (a * b)": un("-", bin(a, "*", b)), "not a = b": bin(un("not", a), "=", b),
		"a = not b": bin(a, "=", un("not", b)), "old a + b": bin(old(a), "+", b), "not a and b": bin(un("not", a), "and", b),
		"(a)": a, "((a))": a, "( ( 1 ) )": num(1), "((a) + ((b)))": bin(a, "+", b), "(f) ": call("f"), "(f (a))": call("f", a), "f ((a))": call("f", a), "(attached (a) as b)": attached(a, "b"),
		"a or b and not c = - 2":  bin(a, "or", bin(b, "and", bin(un("not", c), "=", un("-", num(2))))),
		"a implies b implies c":   bin(a, "implies", bin(b, "implies", c)),
		"(a implies b) implies c": bin(bin(a, "implies", b), "implies", c),
		"a + b * c - a // b % c":  bin(bin(a, "+", bin(b, "*", c)), "-", bin(bin(a, "//", b), "%", c)),
		"(a = b) = c":             bin(bin(a, "=", b), "=", c), "a = (b = c)": bin(a, "=", bin(b, "=", c)),
		"a < b or a > b implies a /= b": bin(bin(bin(a, "<", b), "or", bin(a, ">", b)), "implies", bin(a, "/=", b)),
	} {
		expresses(t, text, want)
		expresses(t, "( "+text+" -- )\n)", want)
	}
}

// operators are all operators with two sides, by levels: those that bind least first.
var operators = [][]string{{"implies"}, {"or"}, {"and"}, {"=", "/=", "<", "<=", ">", ">="}, {"+", "-"}, {"*", "//", "%"}}

// P2.3: which of two operators is grouped first, and which texts are none.
func TestLevels(t *testing.T) {
	for i, ones := range operators {
		for j, others := range operators {
			for _, one := range ones {
				for _, other := range others {
					text := "a " + one + " b " + other + " c"
					switch {
					case i == j && one != "implies" && i == 3:
						rejectsExpr(t, "a "+one+" b ^"+other+" c", api.ErrForm)
					case i < j || one == "implies" && i == j:
						expresses(t, text, bin(a, one, bin(b, other, c)))
					default:
						expresses(t, text, bin(bin(a, one, b), other, c))
					}
					expresses(t, "a "+one+" ( b "+other+" c )", bin(a, one, bin(b, other, c)))
					expresses(t, "( a "+one+" b ) "+other+" c", bin(bin(a, one, b), other, c))
				}
			}
		}
		for _, one := range ones {
			expresses(t, "- a "+one+" not b", bin(un("-", a), one, un("not", b)))
			expresses(t, "old a "+one+" old b", bin(old(a), one, old(b)))
			expresses(t, "a.b "+one+" attached a.b as c", bin(dot(a, "b"), one, attached(dot(a, "b"), "c")))
			rejectsExpr(t, "a "+one+"^", api.ErrForm)
			rejectsExpr(t, "a "+one+" ^)", api.ErrForm)
			rejectsExpr(t, "f ( a "+one+" ^, b )", api.ErrForm)
			if one != "-" {
				rejectsExpr(t, "^"+one+" a", api.ErrForm)
				rejectsExpr(t, "a + ^"+one+" a", api.ErrForm)
			}
		}
	}
}

// wrongExprs are texts that are no expressions for what is marked.
var wrongExprs = []string{
	"^", " -- a\n ^", "a = b ^= c", "a +^", "a < b ^<= c", "a = b + c ^/= a", "a ^b", "1 ^2", "a ^1", "^)", "( ^)", "( a^", "( a ^, b )", "( a ^;", "a ^)", "( a ) ^b", "( a ) ^( b )", "1 ^( a )", "True ^( a )",
	"f ( ^)", "f ( a^", "f ( a , ^)", "f ( a ^; b )", "f ( a ^b )", "f ( a ) ^( b )", "f ( a ) ^b", "a ^:= b", "a ^: b", "a ^;", "^;", "a ^, b", "^,", "^[ a ]", "a ^[ b ]", "^{ a }",
	"^. a", "a .^", "a . ^1", "a . ^A", "a . ^( b )", "a . ^Result", "a . b ^c", "a . b ( ^)", "a . ^. b", "a . b . ^", "^A", "^A . a", "a + ^A", "^INTEGER",
	"-^", "not^", "old^", "- ^* a", "not ^)", "old ^;", "- ^implies a", "a ^not b", "a ^old b", "a * ^* b", "not ^and", "a ^attached b as c",
	"attached^", "attached a^", "attached a ^b", "attached a as^", "attached a as ^A", "attached a as ^Result", "attached a as ^1", "attached ^- a as b", "attached ^not a as b", "attached ^old a as b", "attached a ^+ b as c",
	"attached a ^= b as c", "attached ( a ^as b )", "a ^as b", "attached a as b ^as c", "attached ^as b", "attached a as b ^( c )", "attached a as ^( b )",
	"^if a then b else c end", "^create a . b", "^end", "a ^end", "a ^then", "^class", "^retry", "^put a", "^raise 1", "^separate a", "^detachable a", "a ^is b", "a implies ^", "a implies b implies^",
}

// P2.3: the first error of an expression, and its place.
func TestWrongExprs(t *testing.T) {
	for _, text := range wrongExprs {
		rejectsExpr(t, text, api.ErrForm)
	}
}

// P2.3, with the chapter's examples.
func TestStmtsOf(t *testing.T) {
	x1 := clause("x", a)
	for text, want := range map[string][]api.Stmt{
		"": nil, " -- retry ;\n": nil,
		"x := 1 ;": {assign("x", num(1))}, "Result := a + b;": {assign("Result", bin(a, "+", b))}, "x := Result ;": {assign("x", result)}, "x := y = z ;": {assign("x", bin(call("y"), "=", call("z")))},
		"a ;": {do(a)}, "a ; b ; c ;": {do(a), do(b), do(c)}, "f ( a ) ;": {do(call("f", a))}, "a . b ;": {do(dot(a, "b"))}, "a . f ( b ) . c ;": {do(dot(dot(a, "f", b), "c"))},
		"( a ) ;": {do(a)}, "( ( f ( a ) ) ) ;": {do(call("f", a))}, "( - a ) . b ;": {do(dot(un("-", a), "b"))}, "2 . a ;": {do(dot(num(2), "a"))}, "Result . a ;": {do(dot(result, "a"))},
		"Current . a ;": {do(dot(current, "a"))}, "True . a ;": {do(dot(yes, "a"))}, "attached a as b . c ;": {do(dot(attached(a, "b"), "c"))}, "( ( attached a as b ) . c ) ;": {do(dot(attached(a, "b"), "c"))},
		"create a . b ;": {create("a", b)}, "create Result . f ( a , 1 ) ;": {create("Result", call("f", a, num(1)))},
		"if a then end ;":                                                 {{Kind: api.StIf, Exprs: []api.Expr{a}}},
		"if a then else end ;":                                            {{Kind: api.StIf, Exprs: []api.Expr{a}}},
		"if a then b ; c ; else retry ; end;":                             {{Kind: api.StIf, Exprs: []api.Expr{a}, Body: []api.Stmt{do(b), do(c)}, Else: []api.Stmt{retry}}},
		"if a then else b ; end ;":                                        {{Kind: api.StIf, Exprs: []api.Expr{a}, Else: []api.Stmt{do(b)}}},
		"from until a loop end ;":                                         {{Kind: api.StLoop, Exprs: []api.Expr{a}}},
		"from invariant until a loop end ;":                               {{Kind: api.StLoop, Exprs: []api.Expr{a}}},
		"from a ; b ; invariant x : a ; until b variant c loop c ; end ;": {{Kind: api.StLoop, Exprs: []api.Expr{b, c}, Tags: []api.Clause{x1}, Init: []api.Stmt{do(a), do(b)}, Body: []api.Stmt{do(c)}}},
		"from until a variant b loop end ;":                               {{Kind: api.StLoop, Exprs: []api.Expr{a, b}}},
		"check end ;":                                                     {check()}, "check x : a ; end ;": {check(x1)}, "check x : a ; x : a ; y : True ; end ;": {check(x1, x1, clause("y", yes))},
		"separate a as b do end ;":                   {{Kind: api.StSep, Name: "b", Exprs: []api.Expr{a}}},
		"separate a . b as c when b do a ; end ;":    {{Kind: api.StSep, Name: "c", Exprs: []api.Expr{dot(a, "b"), b}, Body: []api.Stmt{do(a)}}},
		"separate attached a as b as c do b ; end ;": {{Kind: api.StSep, Name: "c", Exprs: []api.Expr{attached(a, "b")}, Body: []api.Stmt{do(b)}}},
		"retry ;": {retry}, "raise 0 ;": {raise(0)}, "raise 99 ;": {raise(99)}, "put a ;": {put(a)}, "put - 1 ;": {put(un("-", num(1)))}, "put a ; put b ;": {put(a), put(b)},
	} {
		if l, at, err := read.StmtsOf(text); at != (api.Place{}) || err != api.OK || !alike(l, want) {
			t.Errorf("%q: %+v %v %d, want %+v", text, l, at, err, want)
		}
		f := procedure("f", want...)
		parses(t, "class A feature { ANY } f do "+text+"\nend end", classOf("A", f))
	}
}

// wrongStmts are texts that are no statements for what is marked.
var wrongStmts = []string{
	"x := 1; 2^;", "2 ^;", "True ^;", "Result ^;", "Current ^;", "Void ^;", "- a ^;", "not a ^;", "old a ^;", "a + b ^;", "a implies b ^;", "a . b = c ^;", "( 2 ) ^;", "( a + b ) ^;", "( ( a . b ) + c ) ^;",
	"attached a as b ^;", "attached a . b as c ^;", "( attached a as b ) ^;", "- a . b ^;", "f ( a ) + 1 ^;", "1 + f ( a ) ^;",
	"^;", "a ; ^;", "a^", "a ^b", "a ^end", "a ^else", "a ^, b", "a ; ^end", "a ; ^else", "a ; ^then", "a ; ^)", "a ; ^until", "a ; ^ensure", "a ; ^rescue", "a ; ^invariant", "a ; ^loop", "a ; ^do", "a ; ^A", "^A := 1 ;", "a ; ^class",
	"x := ^;", "x :=^", "x = ^;", "x = 1 ^;", "x := 1 ^:= 2 ;", "x := y ^:= 2 ;", "x := ^:= 1 ;", "^:= 1 ;", "1 ^:= 2 ;", "( x ) ^:= 1 ;", "x . y ^:= 1 ;", "x ( y ) ^:= 1 ;", "Current ^:= a ;", "Void ^:= a ;", "x ^: = 1 ;", "x := 1 ^end",
	"Result . a ^:= 1 ;", "x := ^retry ;", "x := ^create a . b ;",
	"create^", "create ^;", "create ^Current . a ;", "create ^A . a ;", "create ^1 . a ;", "create a ^;", "create a ^:= b ;", "create a . ^;", "create a . ^Result ;", "create a . ^A ;", "create a . b ^. c ;", "create a . b ( ^) ;", "create a . b ( c ^; end",
	"create a ^( b ) . c ;", "create ^( a ) . b ;", "create a . b ^:= c ;", "create a . b ^+ c ;", "create a . b ( c ) ^( b ) ;", "create a . ^( b ) ;",
	"if^", "if ^then end ;", "if a ^end ;", "if a ^; then end ;", "if a ^do end ;", "if a then ^;", "if a then b ^end ;", "if a then b ; ^loop end ;", "if a then else ^else end ;", "if a then end ^else end ;", "if a then ^then end ;", "if a then else^", "if a then end^", "if a then end ^a ;", "if a ^:= b then end ;",
	"from^", "from ^loop end ;", "from a ^until b loop end ;", "from until ^loop end ;", "from until a ^end ;", "from until a loop^", "from until a loop ^until end ;", "from until a variant ^loop end ;", "from until a ^invariant loop end ;", "from ^variant a until b loop end ;",
	"from invariant x ^; until a loop end ;", "from invariant ^invariant until a loop end ;", "from invariant x : a ^until b loop end ;", "from until a variant b ^variant c loop end ;", "from ^else until a loop end ;", "from until a loop end^", "from until a ^; loop end ;", "from until a variant b ^; loop end ;", "from ^end ;",
	"check^", "check ^;", "check ^True ; end ;", "check x ^; end ;", "check x : ^; end ;", "check x : a ^end ;", "check x : a ; ^retry ; end ;", "check x ^:= a ; end ;", "check end^", "check x : a ; ^",
	"separate^", "separate ^as b do end ;", "separate a ^do end ;", "separate a as ^do end ;", "separate a as ^B do end ;", "separate a as ^Result do end ;", "separate a as b ^end ;", "separate a as b when ^do end ;", "separate a as b ^, c as d do end ;", "separate a as b do ^do end ;", "separate a as b when a ^when b do end ;",
	"separate a as b do^", "separate a as b do end^", "separate a as b do ^else end ;", "separate ^A as b do end ;", "separate a as b ^. c do end ;", "separate a as b ^loop end ;",
	"retry^", "retry ^retry ;", "retry ^a ;", "raise^", "raise ^;", "raise ^a ;", "raise ^- 1 ;", "raise ^( 1 ) ;", "raise ^True ;", "raise 1 ^+ 1 ;", "raise 1 ^2 ;", "put^", "put ^;", "put a ^:= b ;", "put a ^b ;", "put ^put a ;", "put ^retry ;", "put ^A ;",
}

// P2.3: the first error of statements, and its place.
func TestWrongStmts(t *testing.T) {
	for _, text := range wrongStmts {
		rejectsStmts(t, text, api.ErrForm)
		rejectsStmts(t, "a ;\nretry ; "+text, api.ErrForm)
	}
	for _, n := range []string{"100", "101", "999", "1099511627776"} {
		rejectsStmts(t, "raise ^"+n+";", api.ErrLimit)
		rejectsStmts(t, "raise ^"+n+" x", api.ErrLimit)
		rejectsStmts(t, "raise ^"+n, api.ErrLimit)
		rejects(t, "class A feature { ANY } x do rescue raise ^"+n+" ; end end", api.ErrLimit)
	}
	rejectsStmts(t, "raise ^1099511627777 ;", api.ErrLimit)
	rejectsStmts(t, "raise ^01 ;", api.ErrForm)
}

// P2.3
func TestTypeOf(t *testing.T) {
	for text, want := range map[string]api.Type{
		"INTEGER": integer, "BOOLEAN": boolean, "A": typed("A"), "ANY": typed("ANY"), "A [ ANY ]": typed("A", typed("ANY")), "ANY [ A ]": typed("ANY", typed("A")), "INTEGER_2": typed("INTEGER_2"),
		"G": formal("G"), "detachable G": detachable(formal("G")), "detachable A": detachable(typed("A")), "separate A": separate(typed("A")), "detachable separate A": detachable(separate(typed("A"))),
		"detachable LIST [ G ]": detachable(typed("LIST", formal("G"))), "A [ B , INTEGER , BOOLEAN , H ]": typed("A", typed("B"), integer, boolean, formal("H")), "G2": typed("G2"),
		"separate A[B[detachable separate C],detachable G] -- ": separate(typed("A", typed("B", detachable(separate(typed("C")))), detachable(formal("G")))), "separate ANY": separate(typed("ANY")),
	} {
		if y, at, err := read.TypeOf(text, []string{"G", "H", "G"}); at != (api.Place{}) || err != api.OK || !alike(y, want) {
			t.Errorf("%q: %+v %v %d, want %+v", text, y, at, err, want)
		}
		if strings.Contains(text, "ANY") {
			continue
		}
		x := attribute("x", want)
		parses(t, "class A [ G : ANY , H : B ] feature { ANY } x : "+text+"\n; end",
			api.Class{Name: "A", Formals: []api.Formal{{Name: "G", Bound: "ANY"}, {Name: "H", Bound: "B"}}, Features: []api.Feature{x}})
	}
	for _, formals := range [][]string{nil, {"H"}, {"g", "GG", ""}} {
		if y, _, err := read.TypeOf("separate G [ A ]", formals); err != api.OK || !alike(y, separate(typed("G", typed("A")))) {
			t.Errorf("%+v %d", y, err)
		}
	}
	formals := []string{"H", "G"}
	if y, _, err := read.TypeOf("A [ INTEGER , G ]", formals); err != api.OK || !alike(y, typed("A", integer, formal("G"))) {
		t.Errorf("%+v %d", y, err)
	}
	if !slices.Equal(formals, []string{"H", "G"}) {
		t.Error(formals)
	}
	for _, text := range []string{"^NONE", "detachable ^NONE", "separate ^NONE", "A [ ^NONE ]", "^NONE [ A ]", "A [ B , ^NONE x", "^NONE x"} {
		rejectsType(t, text, api.ErrName)
	}
}

// P2.3: the limits of nesting, by what is in the text's first place.
func TestNestOfParts(t *testing.T) {
	for _, f := range deepExprs() {
		if e, at, err := read.ExprOf(f(api.MaxNest)); at != (api.Place{}) || err != api.OK || read.Depth(e) != api.MaxNest {
			t.Error(f(2), at, err)
		}
		rejectsExpr(t, "-- a\n ^"+f(api.MaxNest+1), api.ErrLimit)
		rejectsExpr(t, "^"+strings.Repeat("(", 100)+f(api.MaxNest+1)+strings.Repeat(")", 100), api.ErrLimit)
		rejectsExpr(t, f(api.MaxNest+1)+" +^", api.ErrForm)
	}
	expresses(t, strings.Repeat("(", 2000)+"a"+strings.Repeat(")", 2000), a)
	for _, f := range deepTypes() {
		if y, at, err := read.TypeOf(f(api.MaxNest), nil); at != (api.Place{}) || err != api.OK || y.Kind != api.TyClass {
			t.Error(f(2), at, err)
		}
		rejectsType(t, " ^"+f(api.MaxNest+1), api.ErrLimit)
	}
	for _, f := range deepStatements() {
		if l, at, err := read.StmtsOf(f(api.MaxNest)); at != (api.Place{}) || err != api.OK || len(l) == 0 {
			t.Error(f(3), at, err)
		}
		rejectsStmts(t, " ^"+f(api.MaxNest+1), api.ErrLimit)
		rejectsStmts(t, "\n^a ; retry ; "+f(api.MaxNest+1)+" b ;", api.ErrLimit)
		rejectsStmts(t, "2 ^; "+f(api.MaxNest+1), api.ErrForm)
	}
}

// deepExprs are texts of expressions that are n deep, by the part that is deep.
func deepExprs() []func(n int) string {
	return []func(n int) string{
		deepExpr,
		func(n int) string { return "a" + strings.Repeat(" + a", n-1) },
		func(n int) string { return "a" + strings.Repeat(" implies a", n-1) },
		func(n int) string { return strings.Repeat("a + (", n-1) + "b" + strings.Repeat(")", n-1) },
		func(n int) string { return "a" + strings.Repeat(" . f ( 1 )", n-1) },
		func(n int) string { return strings.Repeat("f ( 1 , ", n-1) + "a" + strings.Repeat(" )", n-1) },
		func(n int) string { return strings.Repeat("a . f ( ", n-1) + "a" + strings.Repeat(" , 1 )", n-1) },
		func(n int) string { return strings.Repeat("attached ", n-1) + "a" + strings.Repeat(" as x", n-1) },
		func(n int) string { return strings.Repeat("old ", n-1) + "Void" },
	}
}

// deepTypes are texts of types that are n deep.
func deepTypes() []func(n int) string {
	return []func(n int) string{
		deepType,
		func(n int) string { return strings.Repeat("A [ B , ", n-1) + "C" + strings.Repeat(" ]", n-1) },
		func(n int) string {
			return strings.Repeat("A [ ", n-1) + "detachable C" + strings.Repeat(" , INTEGER ]", n-1)
		},
	}
}

// deepStatements are texts of statements that are n deep, by the part that is deep.
func deepStatements() []func(n int) string {
	return []func(n int) string{
		deepStmt,
		func(n int) string { return "x := " + deepExpr(n-1) + " ;" },
		func(n int) string { return "Result := " + deepExpr(n-1) + " ;" },
		func(n int) string { return "f ( " + deepExpr(n-2) + " ) ;" },
		func(n int) string { return "put " + deepExpr(n-1) + " ;" },
		func(n int) string { return "check t : a ; u : " + deepExpr(n-1) + " ; end ;" },
		func(n int) string { return "if " + deepExpr(n-1) + " then end ;" },
		func(n int) string { return "if a then b ; " + deepStmt(n-1) + " b ; end ;" },
		func(n int) string { return "if a then else b ; " + deepStmt(n-1) + " b ; end ;" },
		func(n int) string { return "from a ; " + deepStmt(n-1) + " b ; until b loop end ;" },
		func(n int) string { return "from until b loop a ; " + deepStmt(n-1) + " end ;" },
		func(n int) string { return "from until " + deepExpr(n-1) + " loop end ;" },
		func(n int) string { return "from until a variant " + deepExpr(n-1) + " loop end ;" },
		func(n int) string { return "from invariant t : a ; u : " + deepExpr(n-1) + " ; until a loop end ;" },
		func(n int) string { return "separate " + deepExpr(n-1) + " as a do end ;" },
		func(n int) string { return "separate b as a when " + deepExpr(n-1) + " do end ;" },
		func(n int) string { return "separate b as a do c ; " + deepStmt(n-1) + " end ;" },
	}
}

// P2.3: the arguments of a creation are parts of it.
func TestNestOfCreations(t *testing.T) {
	if l, _, err := read.StmtsOf("create a . b ( c , " + deepExpr(api.MaxNest-2) + " ) ;"); len(l) != 1 || err != api.OK {
		t.Error(l, err)
	}
	rejectsStmts(t, "^create a . b ( c , "+deepExpr(api.MaxNest)+" ) ;", api.ErrLimit)
}
