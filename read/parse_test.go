package read_test

import (
	"slices"
	"strings"
	"testing"

	"cosigner/api"
	"cosigner/read"
)

// P2.1
func TestParseClasses(t *testing.T) {
	parses(t, "")
	parses(t, " \n -- class A end\n")
	parses(t, "class A end", classOf("A"))
	parses(t, "class A end class B end\nclass A end", classOf("A"), classOf("B"), classOf("A"))
	parses(t, "deferred class A end class B end deferred class C end",
		api.Class{Name: "A", Deferred: true}, classOf("B"), api.Class{Name: "C", Deferred: true})
	parses(t, "class A [ G : ANY ] end", api.Class{Name: "A", Formals: []api.Formal{{Name: "G", Bound: "ANY"}}})
	parses(t, "class A [ G : ANY , H : G , A : A ] end",
		api.Class{Name: "A", Formals: []api.Formal{{Name: "G", Bound: "ANY"}, {Name: "H", Bound: "G"}, {Name: "A", Bound: "A"}}})
	parses(t, "class A create make end", api.Class{Name: "A", Create: []string{"make"}})
	parses(t, "class A create b , a , b end", api.Class{Name: "A", Create: []string{"b", "a", "b"}})
	parses(t, "class A invariant end", classOf("A"))
	parses(t, "class A invariant a : True ; b : c ; end", api.Class{Name: "A", Invariant: []api.Clause{clause("a", yes), clause("b", c)}})
	parses(t, "class A feature { ANY } x : INTEGER ; end", classOf("A", attribute("x", integer)))
	whole := api.Class{
		Name: "A", Deferred: true, Formals: []api.Formal{{Name: "G", Bound: "B"}}, Parents: []api.Parent{{Name: "C"}}, Create: []string{"make"},
		Features: []api.Feature{attribute("x", formal("G")), procedure("make")}, Invariant: []api.Clause{clause("t", no)},
	}
	parses(t, "deferred class A [ G : B ] inherit C ; create make feature { ANY } x : G ; make do end invariant t : False ; end", whole)
}

// P2.1
func TestParseParents(t *testing.T) {
	for text, want := range map[string][]api.Parent{
		"B ;":           {{Name: "B"}},
		"ANY ;":         {{Name: "ANY"}},
		"G ;":           {{Name: "G"}},
		"B ; C ; B ;":   {{Name: "B"}, {Name: "C"}, {Name: "B"}},
		"B [ G ] ; C ;": {{Name: "B", Args: []api.Type{formal("G")}}, {Name: "C"}},
		"B [ INTEGER , detachable separate C [ D ] ] ;": {{Name: "B", Args: []api.Type{integer, detachable(separate(typed("C", typed("D"))))}}},
		"B rename a as b ;":                             {{Name: "B", Rename: []api.Pair{{From: "a", To: "b"}}}},
		"B rename a as b , b as a ;":                    {{Name: "B", Rename: []api.Pair{{From: "a", To: "b"}, {From: "b", To: "a"}}}},
		"B undefine a , b ;":                            {{Name: "B", Undefine: []string{"a", "b"}}},
		"B redefine a , b ;":                            {{Name: "B", Redefine: []string{"a", "b"}}},
		"B select a , b ;":                              {{Name: "B", Select: []string{"a", "b"}}},
		"B [ C ] rename a as b undefine c redefine d select e ; C select f ;": {
			{Name: "B", Args: []api.Type{typed("C")}, Rename: []api.Pair{{From: "a", To: "b"}}, Undefine: []string{"c"}, Redefine: []string{"d"}, Select: []string{"e"}},
			{Name: "C", Select: []string{"f"}},
		},
	} {
		parses(t, "class A [ G : ANY ] inherit "+text+" end", api.Class{Name: "A", Formals: []api.Formal{{Name: "G", Bound: "ANY"}}, Parents: want})
	}
}

// P2.1: features, each with the clients of its clause.
func TestParseFeatures(t *testing.T) {
	any := []string{"ANY"}
	x := []api.Var{{Name: "x", Type: integer}}
	xy := []api.Var{{Name: "x", Type: integer}, {Name: "y", Type: detachable(typed("B"))}}
	t1, t2 := []api.Clause{clause("t", yes)}, []api.Clause{clause("u", no), clause("v", b)}
	body, more := []api.Stmt{do(a)}, []api.Stmt{do(b), retry}
	for text, want := range map[string]api.Feature{
		"f : INTEGER ;":                  {Kind: api.FeAttr, Type: integer},
		"f : BOOLEAN ;":                  {Kind: api.FeAttr, Type: boolean},
		"f : detachable separate B ;":    {Kind: api.FeAttr, Type: detachable(separate(typed("B")))},
		"f deferred end":                 {Kind: api.FeDeferred},
		"f : INTEGER deferred end":       {Kind: api.FeDeferred, Type: integer},
		"f ( x : INTEGER ) deferred end": {Kind: api.FeDeferred, Args: x},
		"f deferred require t : True ; ensure u : False ; v : b ; end":            {Kind: api.FeDeferred, Require: t1, Ensure: t2},
		"f deferred require t : True ; end":                                       {Kind: api.FeDeferred, Require: t1},
		"f deferred ensure t : True ; end":                                        {Kind: api.FeDeferred, Ensure: t1},
		"f deferred require ensure end":                                           {Kind: api.FeDeferred},
		"f do end":                                                                {Kind: api.FeRoutine},
		"f ( x : INTEGER ; y : detachable B ) : BOOLEAN do end":                   {Kind: api.FeRoutine, Args: xy, Type: boolean},
		"f require do ensure end":                                                 {Kind: api.FeRoutine},
		"f require t : True ; do a ; end":                                         {Kind: api.FeRoutine, Require: t1, Body: body},
		"f local x : INTEGER do end":                                              {Kind: api.FeRoutine, Locals: x},
		"f local x : INTEGER ; y : detachable B do a ; end":                       {Kind: api.FeRoutine, Locals: xy, Body: body},
		"f do a ; ensure t : True ; end":                                          {Kind: api.FeRoutine, Body: body, Ensure: t1},
		"f do rescue end":                                                         {Kind: api.FeRoutine, Rescues: true},
		"f do rescue b ; retry ; end":                                             {Kind: api.FeRoutine, Rescues: true, Rescue: more},
		"f do a ; ensure rescue a ; end":                                          {Kind: api.FeRoutine, Body: body, Rescues: true, Rescue: body},
		"f require u : False ; v : b ; do b ; retry ; ensure t : True ; end":      {Kind: api.FeRoutine, Require: t2, Body: more, Ensure: t1},
		"f ( x : INTEGER ) : INTEGER require t : True ; local x : INTEGER do end": {Kind: api.FeRoutine, Args: x, Type: integer, Require: t1, Locals: x},
	} {
		want.Name, want.Clients = "f", any
		parses(t, "class A feature { ANY } "+text+" end", classOf("A", want))
		parses(t, "class A feature { ANY } "+text+" g : INTEGER ; end", classOf("A", want, attribute("g", integer)))
	}
}

// P2.1
func TestParseClients(t *testing.T) {
	at := func(f api.Feature, clients ...string) api.Feature {
		f.Clients = clients
		return f
	}
	text := "class A feature { ANY } a : INTEGER ; b do end feature { NONE , INTEGER , A } c do end feature { NONE , INTEGER , A } a : BOOLEAN ; end"
	parses(t, text, classOf("A", at(attribute("a", integer), "ANY"), at(procedure("b"), "ANY"),
		at(procedure("c"), "NONE", "INTEGER", "A"), at(attribute("a", boolean), "NONE", "INTEGER", "A")))
	l, _, _ := read.Parse(text)
	l[0].Features[0].Clients[0] = "B"
	if l[0].Features[1].Clients[0] != "ANY" {
		t.Error("features share their clients")
	}
}

// P2.1: the formals of a class are its own.
func TestParseFormals(t *testing.T) {
	g := []api.Formal{{Name: "G", Bound: "ANY"}}
	parses(t, "class A [ G : ANY ] feature { ANY } x : G ; end class B feature { ANY } x : separate G [ G ] ; end",
		api.Class{Name: "A", Formals: g, Features: []api.Feature{attribute("x", formal("G"))}},
		classOf("B", attribute("x", separate(typed("G", typed("G"))))))
	parses(t, "class A feature { ANY } x : LIST [ G ] ; end class B [ G : ANY ] feature { ANY } x : LIST [ detachable G ] ; end",
		classOf("A", attribute("x", typed("LIST", typed("G")))),
		api.Class{Name: "B", Formals: g, Features: []api.Feature{attribute("x", typed("LIST", detachable(formal("G"))))}})
	f := procedure("f")
	f.Args, f.Locals = []api.Var{{Name: "x", Type: formal("G")}}, []api.Var{{Name: "y", Type: formal("G")}, {Name: "z", Type: typed("A")}}
	parses(t, "class A [ G : ANY ] feature { ANY } f ( x : G ) local y : G ; z : A do end end",
		api.Class{Name: "A", Formals: g, Features: []api.Feature{f}})
}

// wrongSystems are texts that have an ErrForm where the mark is: at classes as a whole.
var wrongSystems = []string{
	"^x",
	"^end",
	"^A",
	"^;",
	"^1",
	"^feature { ANY } x : INTEGER ; end",
	"class A end ^end",
	"class A end ^x",
	"class A end ^; class B end",
	"class^",
	"class -- A\n ^",
	"class A^",
	"class A\n^",
	"deferred^",
	"deferred class A ^",
	"class A end deferred\n\n  ^",
	"class ^a end",
	"class ^if end",
	"class ^1 end",
	"class A ^B end",
	"deferred ^deferred class A end",
	"deferred ^end",
	"deferred ^A end",
	"class ^deferred A end",
	"class A ^class B end",
	"class ^class A end",
	"class ^deferred class A end",
	"class A ^deferred class B end",
	"class A ^deferred end",
	"class A feature { ANY } x : INTEGER ; end ^feature { ANY } y : INTEGER ; end",
	"class A -- one\n  -- two\nfeature { ANY }\n  x : INTEGER ; ^class B end",
	"class A feature { ANY } x : INTEGER ; ^deferred class B end",
	"class A feature { ANY } x do end ^deferred class B end",
	"class A feature { ANY } x ^class B end",
	"class A feature { ANY } x deferred ^class B end",
	"class A feature { ANY } x do a ; ^class B end",
	"class A feature { ANY } x do end^",
	"class A feature { ANY } x do end end ^x",
}

// wrongHeads are likewise ones at what stands in a class beside its features.
var wrongHeads = []string{
	"class A ^( G : ANY ) end",
	"class A [ ^] end",
	"class A [ ^g : ANY ] end",
	"class A [ G ^] end",
	"class A [ G ^, H : ANY ] end",
	"class A [ G ^:= ANY ] end",
	"class A [ G : ^] end",
	"class A [ G : ^g ] end",
	"class A [ G : B ^[ C ] ] end",
	"class A [ G : ^detachable B ] end",
	"class A [ G : ^separate B ] end",
	"class A [ G : B ^; H : B ] end",
	"class A [ G : B ^H : B ] end",
	"class A [ G : B , ^] end",
	"class A [ G : B ^end",
	"class A [ G : B ] ^[ H : B ] end",
	"class A inherit ^end",
	"class A inherit ^create make end",
	"class A inherit B ^end",
	"class A inherit B ^, C ; end",
	"class A inherit B ^C ; end",
	"class A inherit ^b ; end",
	"class A inherit B ; ^; end",
	"class A inherit B ; ^b ; end",
	"class A inherit B ; ^inherit C ; end",
	"class A inherit ^detachable B ; end",
	"class A inherit ^separate B ; end",
	"class A inherit B [ ^] ; end",
	"class A inherit B [ C ^; end",
	"class A inherit B [ C , ^] ; end",
	"class A inherit B [ C ] ^[ D ] ; end",
	"class A inherit B rename ^; end",
	"class A inherit B rename a ^b ; end",
	"class A inherit B rename a as ^B ; end",
	"class A inherit B rename ^A as b ; end",
	"class A inherit B rename a as b ; ^c as d ; end",
	"class A inherit B rename a as b , ^; end",
	"class A inherit B rename a as b ^c as d ; end",
	"class A inherit B rename a ^, b ; end",
	"class A inherit B undefine ^; end",
	"class A inherit B undefine a , ^; end",
	"class A inherit B undefine a ^as b ; end",
	"class A inherit B undefine ^A ; end",
	"class A inherit B redefine ^; end",
	"class A inherit B redefine a ^b ; end",
	"class A inherit B select ^; end",
	"class A inherit B select a , ^select ; end",
	"class A inherit B undefine a ^rename a as b ; end",
	"class A inherit B redefine a ^undefine b ; end",
	"class A inherit B select a ^redefine b ; end",
	"class A inherit B rename a as b ^rename c as d ; end",
	"class A inherit B rename a as b ^[ C ] ; end",
	"class A inherit B select a ^select b ; end",
	"class A create ^end",
	"class A create ^A end",
	"class A create a , ^end",
	"class A create a ^b end",
	"class A create a ^; end",
	"class A create a ^create b end",
	"class A create a ^inherit B ; end",
	"class A create ^Result end",
	"class A ^x : INTEGER ; end",
	"class A feature ^end",
	"class A feature ^x : INTEGER ; end",
	"class A feature { ^} x : INTEGER ; end",
	"class A feature { ^any } x : INTEGER ; end",
	"class A feature { ANY ^x : INTEGER ; end",
	"class A feature { ANY , ^} x : INTEGER ; end",
	"class A feature { ANY ^; B } x : INTEGER ; end",
	"class A feature { ANY } ^end",
	"class A feature { ANY } ^feature { ANY } x : INTEGER ; end",
	"class A feature { ANY } ^X : INTEGER ; end",
	"class A feature { ANY } ^invariant end",
	"class A invariant ^feature { ANY } x do end end",
	"class A invariant t : True ; ^invariant end",
	"class A invariant t : True ^end",
	"class A invariant t ^:= True ; end",
	"class A invariant ^True ; end",
	"class A invariant t : ^end",
	"class A invariant t : True ; ^;",
	"class A invariant t : True ; u ^",
	"class A invariant t : a ^b ; end",
}

// wrongFeatures are likewise ones at features; the head of the class is left out.
var wrongFeatures = []string{
	"x ^; end",
	"x ^end",
	"x ^, y : INTEGER ; end",
	"x : ^; end",
	"x : INTEGER ^end",
	"x : INTEGER ^:= 1 ; end",
	"x : ^integer ; end",
	"x : ^1 ; end",
	"x ( ^) do end end",
	"x ( ^A : INTEGER ) do end end",
	"x ( y ^) do end end",
	"x ( y : INTEGER ^, z : INTEGER ) do end end",
	"x ( y ^, z : INTEGER ) do end end",
	"x ( y : INTEGER ; ^) do end end",
	"x ( y : INTEGER ) ^; end",
	"x ( y : INTEGER ) : INTEGER ^; end",
	"x ( y : INTEGER ; z : INTEGER ; ^end",
	"x ( y : INTEGER ) ^( z : INTEGER ) do end end",
	"x : INTEGER ^( y : INTEGER ) do end end",
	"x : INTEGER ^: INTEGER ; end",
	"x require ^; end",
	"x require ^deferred end end",
	"x require t : True ; ^end end",
	"x require ^ensure do end end",
	"x require t ^True ; do end end",
	"x require t : ^; do end end",
	"x require t : True ^do end end",
	"x require ^True ; do end end",
	"x require ^T : True ; do end end",
	"x require t : True ^, u : True ; do end end",
	"x local ^do end end",
	"x local y : INTEGER ; ^do end end",
	"x local y : INTEGER ^end end",
	"x local y : INTEGER ^require do end end",
	"x local y : INTEGER ^local z : INTEGER do end end",
	"x local y : INTEGER ^deferred end end",
	"x do ensure ^ensure end end",
	"x do rescue ^ensure end end",
	"x do ^require end end",
	"x do rescue ^rescue end end",
	"x do end ^; end",
	"x do ^; end end",
	"x do ^local y : INTEGER end end",
	"x do a ^end end",
	"x do a ; ^do b ; end end",
	"x do ensure t : True ; a ^; end end",
	"x deferred ^a ; end end",
	"x deferred ^do end end",
	"x deferred ensure ^require end end",
	"x deferred ^local y : INTEGER end end",
	"x deferred ^; end",
	"x deferred ^rescue end end",
	"x deferred require ^rescue end end",
	"x deferred ensure ^ensure end end",
	"x do end ^create y end",
	"x do end ^inherit B ; end",
	"x do ^else end end",
	"x do ^until end end",
	"x do ^loop end end",
	"x do ^then end end",
	"x do ^invariant end end",
}

// P2.1, P2.2: what no text goes on with, and what lacks at its end.
func TestWrongForms(t *testing.T) {
	for _, text := range slices.Concat(wrongSystems, wrongHeads) {
		rejects(t, text, api.ErrForm)
	}
	for _, text := range wrongFeatures {
		rejects(t, "class A feature { ANY } "+text, api.ErrForm)
		rejects(t, "class A feature { ANY } w : INTEGER ; "+text, api.ErrForm)
	}
}

// P2.1, P2.2: names that must not stand where the grammar allows them.
func TestWrongNames(t *testing.T) {
	for _, s := range []string{"INTEGER", "BOOLEAN", "ANY", "NONE"} {
		rejects(t, "class ^"+s+" end", api.ErrName)
		rejects(t, "deferred class ^"+s+" [ ; end", api.ErrName)
		rejects(t, "class A end class ^"+s+" end", api.ErrName)
		rejects(t, "class A [ ^"+s+" : ANY ] end", api.ErrName)
		rejects(t, "class A [ G : ANY , ^"+s+" : ANY ] end", api.ErrName)
	}
	for _, s := range []string{"INTEGER", "BOOLEAN", "NONE"} {
		rejects(t, "class A [ G : ^"+s+" ] end", api.ErrName)
		rejects(t, "class A [ G : ANY , H : ^"+s+" ] end", api.ErrName)
		rejects(t, "class A inherit ^"+s+" ; end", api.ErrName)
		rejects(t, "class A inherit B ; ^"+s+" [ x", api.ErrName)
	}
	for _, s := range []string{
		"class A inherit B [ ^NONE ] ; end", "class A inherit B [ INTEGER , detachable ^NONE ] ; end", "class A feature { ANY } x : ^NONE ; end",
		"class A feature { ANY } x : detachable separate ^NONE ; end", "class A feature { ANY } x : LIST [ ^NONE ] ; end", "class A feature { ANY } x : ^NONE [ A ] ; end",
		"class A feature { ANY } x ( y : ^NONE ) do end end", "class A feature { ANY } x local y : INTEGER ; z : ^NONE do end end", "class A feature { ANY } x : ^NONE deferred end end",
	} {
		rejects(t, s, api.ErrName)
	}
}

// wrongTypes are types, with the formals G and H, that have an ErrForm where the mark is.
var wrongTypes = []string{
	"detachable ^INTEGER", "separate ^INTEGER", "detachable separate ^INTEGER", "detachable ^BOOLEAN", "separate ^BOOLEAN", "detachable separate ^BOOLEAN",
	"separate ^G", "detachable separate ^H", "INTEGER ^[ A ]", "BOOLEAN ^[ A ]", "G ^[ A ]", "detachable H ^[ A ]", "detachable ^INTEGER [ A ]", "separate ^G [ A ]",
	"A [ detachable ^INTEGER ]", "A [ separate ^G ]", "A [ B [ G ^[ C ] ] ]", "A [ INTEGER , INTEGER ^[ A ] ]",
	"separate ^detachable A", "detachable ^detachable A", "separate ^separate A", "A [ ^]", "A [ B , ^]", "A [ B ^C ]", "A [ B ^; C ]", "A ^B", "^a", "^[ A ]", "A [ B ] ^[ C ]", "A ^. b",
}

// P2.1, P2.2, P2.3: words that types must not have.
func TestWrongTypes(t *testing.T) {
	for _, s := range wrongTypes {
		rejectsType(t, s, api.ErrForm)
		rejects(t, "class A [ H : ANY , G : B ] feature { ANY } x : "+s+" ; end", api.ErrForm)
	}
	for _, s := range []string{"", "detachable", "separate", "detachable separate", "A [", "A [ B", "A [ B ,"} {
		rejectsType(t, s+"^", api.ErrForm)
		rejectsType(t, s+" -- A\n ^", api.ErrForm)
		rejects(t, "class A [ H : ANY , G : B ] feature { ANY } x : "+s+" ^; end", api.ErrForm)
	}
}

// P2.1: what is wrong with the tokens comes first of all, at its place.
func TestWrongTokens(t *testing.T) {
	for _, w := range []struct {
		text string
		err  api.Errno
	}{
		{"x x x\n ^01", api.ErrForm}, {"class ANY end\n -- a\n ^true", api.ErrName}, {"x ^abcdefghijklmnopqrstu", api.ErrLimit}, {"x -- ^\t", api.ErrForm}, {"class A end ^!", api.ErrForm},
		{strings.Repeat("class A end ", 25) + "^_", api.ErrForm},
	} {
		text, place := marked(w.text)
		if l, at, err := read.Parse(text); len(l) > 0 || at != place || err != w.err {
			t.Errorf("%q: %v %v %d", text, l, at, err)
		}
		rejectsExpr(t, w.text, w.err)
		rejectsStmts(t, w.text, w.err)
		rejectsType(t, w.text, w.err)
		if l, err := read.Slips(text); len(l) > 0 || err != w.err {
			t.Errorf("Slips %q: %v %d", text, l, err)
		}
		if l, err := read.Split(text); len(l) > 0 || err != w.err {
			t.Errorf("Split %q: %v %d", text, l, err)
		}
	}
	for _, text := range []string{strings.Repeat(" ", api.MaxText+1), "!" + strings.Repeat(" ", api.MaxText), strings.Repeat("+", api.MaxTokens+1)} {
		if l, at, err := read.Parse(text); len(l) > 0 || at != (api.Place{}) || err != api.ErrLimit {
			t.Errorf("%.20q: %v %v %d", text, l, at, err)
		}
		if l, err := read.Slips(text); len(l) > 0 || err != api.ErrLimit {
			t.Errorf("Slips %.20q: %v %d", text, l, err)
		}
		if l, err := read.Split(text); len(l) > 0 || err != api.ErrLimit {
			t.Errorf("Split %.20q: %v %d", text, l, err)
		}
	}
}

// P2.1: the limit of classes, and what is found ahead of it.
func TestMaxClasses(t *testing.T) {
	many := strings.Repeat("class A end\n", api.MaxClasses)
	if l, at, err := read.Parse(many); len(l) != api.MaxClasses || at != (api.Place{}) || err != api.OK {
		t.Error(len(l), at, err)
	}
	for _, w := range []struct {
		text string
		err  api.Errno
	}{
		{many + "^class A end", api.ErrLimit}, {many + " ^deferred class A end", api.ErrLimit}, {many + " ^class", api.ErrLimit}, {many + " ^deferred", api.ErrLimit},
		{many + "^class ANY x", api.ErrLimit}, {many + "^class A end x", api.ErrLimit}, {many + "^x", api.ErrForm}, {many + "^end class A end", api.ErrForm},
		{strings.Repeat("class A end ", 23) + "class ^NONE end class A end", api.ErrName}, {"^x " + many + "class A end", api.ErrForm},
	} {
		text, place := marked(w.text)
		if l, at, err := read.Parse(text); len(l) > 0 || at != place || err != w.err {
			t.Errorf("%q: %d %v %d, want %v %d", text[len(text)-30:], len(l), at, err, place, w.err)
		}
	}
}

// deepClasses are texts of classes with a part that is as deep as it says, in each place where parts stand.
func deepClasses(n int) []string {
	expr, type1, stmt := deepExpr(n), deepType(n), deepStmt(n)
	return []string{
		"class A inherit " + deepParent(n) + " ; end", "class A inherit B ; B [ INTEGER , " + type1 + " ] ; end",
		"class A feature { ANY } x : " + type1 + " ; end", "class A feature { ANY } f : " + type1 + " deferred end end",
		"class A feature { ANY } f ( x : INTEGER ; y : " + type1 + " ) do end end", "class A feature { ANY } f local x : INTEGER ; y : " + type1 + " do end end",
		"class A feature { ANY } f require t : " + expr + " ; do end end", "class A feature { ANY } f do ensure t : True ; u : " + expr + " ; end end",
		"class A feature { ANY } f deferred require t : " + expr + " ; end end", "class A feature { ANY } f deferred ensure t : " + expr + " ; end end",
		"class A invariant t : True ; u : " + expr + " ; end",
		"class A feature { ANY } f do " + stmt + " end end", "class A feature { ANY } f do rescue retry ; " + stmt + " end end", "class A feature { ANY } x : INTEGER ; f do a ; " + stmt + " b ; end g do end end",
	}
}

// deepParent is a parent with actual types that are n deep.
func deepParent(n int) string {
	return "B [ " + deepType(n) + " ]"
}

// P2.1, P2.2: how deep the parts of a class are nested.
func TestNestOfClasses(t *testing.T) {
	for i, text := range deepClasses(api.MaxNest) {
		if l, at, err := read.Parse(text); len(l) != 1 || at != (api.Place{}) || err != api.OK {
			t.Error(i, l, at, err)
		}
		if l, err := read.Slips(text); len(l) > 0 || err != api.OK {
			t.Error(i, l, err)
		}
	}
	for _, text := range deepClasses(api.MaxNest + 1) {
		rejects(t, "^"+text, api.ErrLimit)
		rejects(t, "\n ^deferred "+text+" x", api.ErrLimit)
		rejects(t, "class A end\n ^"+text+" class B x end", api.ErrLimit)
		rejects(t, "class A ^x end "+text, api.ErrForm)
		rejects(t, strings.TrimSuffix(text, "end")+"^", api.ErrForm)
	}
	rejects(t, "class B ^x invariant t : "+deepExpr(41)+" ; end", api.ErrForm)
	rejects(t, "class B invariant t : "+deepExpr(41)+" ; ^) ; end", api.ErrForm)
	rejects(t, strings.Repeat("class A end ", 22)+"class B end ^class B invariant t : "+deepExpr(41)+" ; end class A end", api.ErrLimit)
}
