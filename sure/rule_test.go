package sure_test

import (
	"strings"
	"testing"

	"cosigner/api"
	"cosigner/read"
	"cosigner/sure"
)

// base is a system without a fault; the features of the tests are put into the class MAIN, ahead of which nothing stands that could have a fault by them.
const base = `
class BOX
create start, fill, odd
feature { ANY }
  count: INTEGER;
  full: BOOLEAN;
  next: detachable BOX;
  far: separate BOX;
  start do create far.start; end
  fill (n: INTEGER) do create far.start; count := n; end
  odd (b: BOX) do far := b; end
  add (n: INTEGER; b: BOX) do count := count + n; end
  pass (b: separate BOX; c: detachable separate BOX) do end
  twin: BOX do Result := Current; end
  size (n: INTEGER): INTEGER do Result := count + n; end
feature { NONE }
  hidden: INTEGER;
feature { FRIEND }
  near: INTEGER;
feature { ANCESTOR, FRIEND }
  known: INTEGER;
end
class TIN inherit BOX; create start end
deferred class SHAPE feature { ANY } area: INTEGER deferred end make do end end
class LIST [G: ANY]
create make
feature { ANY }
  item: G;
  rest: detachable LIST [G];
  make (x: G) do item := x; end
  change (x: G) do item := x; end
  last: detachable G do end
  all: LIST [G] do Result := Current; end
end
class FRIEND end
class ANCESTOR feature { ANY } zero: INTEGER; calm do end end
class MAIN [G: ANY, H: BOX]
inherit ANCESTOR;
feature { ANY }
  n: INTEGER;
  t: BOOLEAN;
  b: BOX;
  d: detachable BOX;
  s: separate BOX;
  l: LIST [BOX];
  g: G;
  e: detachable G;
  h: H;
  any: ANY;
  shape: SHAPE;
  work do end
  give (x: INTEGER; y: detachable BOX): INTEGER do end
  made: BOX do Result := b; end
%
end`

// rule is a feature, its fault, and the text of the node that has it: "-" for that of the declaration; what stands behind a # counts among equal ones.
type rule struct {
	feature string
	want    api.Errno
	at      string
}

// met is a feature without a fault.
func met(features ...string) []rule {
	var out []rule
	for _, f := range features {
		out = append(out, rule{f, api.OK, ""})
	}
	return out
}

// bodies returns rules for the bodies of procedures with some variables.
func bodies(l ...rule) []rule {
	for i := range l {
		l[i].feature = "f (p: BOX; q: detachable BOX; r: separate BOX; i: INTEGER) local x: BOX; y: detachable BOX; z: separate BOX; j: INTEGER; k: BOOLEAN do " + l[i].feature + " end"
	}
	return l
}

// checkRules checks the faults of features of MAIN, which are all that there are.
func checkRules(t *testing.T, l []rule) {
	t.Helper()
	for _, r := range l {
		checkRule(t, system(t, strings.Replace(base, "%", r.feature, 1)), r)
	}
}

func checkRule(t *testing.T, l []api.Class, r rule) {
	t.Helper()
	features := classOf(l, "MAIN").Features
	f := features[len(features)-1]
	var want []api.Fault
	if r.want != api.OK {
		want = []api.Fault{{Class: "MAIN", Feature: f.Name, At: nodeOf(t, f, r.at), Err: r.want}}
	}
	got := faultsOf(t, l)
	if !alike(got, want) {
		t.Errorf("%s: %v, want %v", r.feature, got, want)
	}
	if err := sure.Check(l); err != r.want {
		t.Errorf("%s: Check is %d, want %d", r.feature, err, r.want)
	}
	if _, err := sure.Nodes(l, "MAIN", f.Name); err != r.want {
		t.Errorf("%s: Nodes has the error %d, want %d", r.feature, err, r.want)
	}
}

// nodeOf returns the number of a node by its text.
func nodeOf(t *testing.T, f api.Feature, text string) int {
	t.Helper()
	if text == "-" || text == "" {
		return -1
	}
	text, count, _ := strings.Cut(strings.ReplaceAll(text, " ", ""), "#")
	left := map[string]int{"": 1, "2": 2, "3": 3, "4": 4}[count]
	for i, is := range texts(f) {
		if is == text {
			left--
		}
		if left == 0 {
			return i
		}
	}
	t.Fatalf("no node %s among %q", text, texts(f))
	return 0
}

// texts returns the texts of a feature's nodes, without blanks.
func texts(f api.Feature) []string {
	var out []string
	var expr func(api.Expr)
	expr = func(e api.Expr) {
		text, err := read.ExprText(e)
		if err != api.OK {
			text = "?"
		}
		out = append(out, strings.ReplaceAll(text, " ", ""))
		for _, k := range e.Kids {
			expr(k)
		}
	}
	clauses := func(l []api.Clause) {
		for _, c := range l {
			expr(c.Expr)
		}
	}
	var stmts func([]api.Stmt)
	stmts = func(l []api.Stmt) {
		for _, s := range l {
			text, err := read.StmtsText([]api.Stmt{s})
			if err != api.OK {
				text = "?"
			}
			out = append(out, strings.ReplaceAll(text, " ", ""))
			if s.Kind == api.StLoop {
				stmts(s.Init)
				clauses(s.Tags)
			}
			for _, e := range s.Exprs {
				expr(e)
			}
			if s.Kind != api.StLoop {
				clauses(s.Tags)
			}
			stmts(s.Body)
			stmts(s.Else)
		}
	}
	clauses(f.Require)
	stmts(f.Body)
	clauses(f.Ensure)
	stmts(f.Rescue)
	return out
}

func TestBase(t *testing.T) {
	checkRules(t, met("f do end"))
}
