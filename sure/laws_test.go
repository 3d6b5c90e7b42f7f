package sure_test

import (
	"slices"
	"strings"
	"testing"

	"cosigner/api"
	"cosigner/flat"
	"cosigner/heir"
	"cosigner/kind"
	"cosigner/sure"
)

// systems calls a test with systems by chance, of which some are damaged, but all well-founded.
func systems(seed int64, n int, test func(r chance, l []api.Class)) {
	r := newChance(seed)
	for range n / 2 {
		l := copied(r.system(5))
		test(r, copied(l))
		r.damage(l)
		if isFounded(l) {
			test(r, l)
		}
	}
}

// of returns the faults of some classes, or of all but these.
func of(faults []api.Fault, class string, is bool) []api.Fault {
	return slices.DeleteFunc(slices.Clone(faults), func(f api.Fault) bool { return (f.Class == class) != is })
}

// P6.8: a class to which none refers changes nothing for the others.
func TestModularity(t *testing.T) {
	t.Parallel()
	seen := 0
	systems(65, 120, func(r chance, l []api.Class) {
		c := copied(pick(r, l...))
		c.Name = "Z"
		if r.one(2) {
			c = api.Class{Name: "Z", Parents: []api.Parent{{Name: c.Name}}, Features: c.Features}
		}
		if text, is := textOf(l).(string); !is || strings.Contains(text, "Z") {
			return
		}
		more := slices.Insert(slices.Clone(l), r.Intn(len(l)+1), c)
		if !isFounded(more) {
			return
		}
		before, after := faultsOf(t, l), faultsOf(t, more)
		if !alike(before, of(after, "Z", false)) {
			t.Fatalf("%v, was %v: %v", after, before, textOf(more))
		}
		seen++
	})
	if seen < 30 {
		t.Error(seen)
	}
}

// trees yields the expressions of a feature with their nodes, and its statements with theirs.
func trees(f api.Feature, expr func(int, api.Expr), stmt func(int, api.Stmt)) {
	at := -1
	var exprs func([]api.Expr)
	exprs = func(l []api.Expr) {
		for _, e := range l {
			at++
			expr(at, e)
			exprs(e.Kids)
		}
	}
	tags := func(l []api.Clause) {
		for _, c := range l {
			exprs([]api.Expr{c.Expr})
		}
	}
	var stmts func([]api.Stmt)
	stmts = func(l []api.Stmt) {
		for _, s := range l {
			at++
			stmt(at, s)
			stmts(s.Init)
			tags(s.Tags)
			exprs(s.Exprs)
			stmts(s.Body)
			stmts(s.Else)
		}
	}
	tags(f.Require)
	stmts(f.Body)
	tags(f.Ensure)
	stmts(f.Rescue)
}

// P6.9: types are right, conditions are BOOLEAN, and what is assigned conforms.
func TestTypeSoundness(t *testing.T) {
	t.Parallel()
	exprs, assigned := 0, 0
	systems(66, 80, func(r chance, l []api.Class) {
		for _, c := range l {
			for _, f := range c.Features {
				names, err := sure.Names(l, c.Name, f.Name)
				if err != api.OK || r.one(2) {
					continue
				}
				typeOf := func(at int) api.Type {
					x, err := sure.TypeOf(l, c.Name, f.Name, at)
					if err != api.OK {
						t.Fatal(c.Name, f.Name, at, err, textOf(l))
					}
					return x
				}
				trees(f, func(at int, e api.Expr) {
					exprs++
					x := typeOf(at)
					if err := kind.Right(l, c.Name, x); err != api.OK && err != api.ErrLimit {
						t.Fatal(x, err, textOf(l))
					}
				}, func(at int, s api.Stmt) {
					if (s.Kind == api.StIf) && typeOf(at+1).Kind != api.TyBool {
						t.Fatal(at, textOf(l))
					}
					if s.Kind != api.StAssign {
						return
					}
					assigned++
					to := f.Type
					if m, err := flat.MemberOf(l, c.Name, s.Name); err == api.OK {
						to = m.Type
					}
					for _, v := range names {
						if v.Name == s.Name {
							to = v.Type
						}
					}
					if is, err := kind.Conforms(l, c.Name, typeOf(at+1), to); !is || err != api.OK {
						t.Fatal(at, err, textOf(l))
					}
				})
			}
		}
	})
	if exprs < 800 || assigned < 80 {
		t.Error(exprs, assigned)
	}
}

// P6.9: a type may be nested deeper than a type that is written may be; what conforms to what is told of it, too.
func TestDeepTypes(t *testing.T) {
	const text = `
class L [G: ANY] feature { ANY } up: L [L [G]] do raise 1; end maybe: detachable L [L [G]] do end down: G do raise 1; end same (x: L [G]) do end maybe_same (x: detachable L [G]) do end up_same (x: L [L [G]]) do end end
class A feature { ANY } any: ANY; l: L [A]; near: %; far: separate %; f do `
	deep := strings.Repeat("L [", api.MaxNest-1) + "A" + strings.Repeat("]", api.MaxNest-1)
	deeper := "near.up.up"
	for body, want := range map[string]api.Errno{
		"any := " + deeper + ";":                                   api.OK,
		"any := near.up.maybe;":                                    api.ErrType,
		"put near.up.maybe = any; put near.up.maybe = near.up.up;": api.OK,
		"if attached near.up.maybe as v then any := v; end;":       api.OK,
		"near.up.up.same (near.up.maybe);":                         api.ErrType,
		"near.up.up.maybe_same (near.up.maybe); near.up.up.maybe_same (Void); near.up.up.maybe_same (near.up.up);": api.OK,
		"separate far as v do put v.up.same (1); end;":                                                             api.ErrState,
		"l := " + deeper + ";":                                              api.ErrType,
		"near := " + deeper + ";":                                           api.ErrType,
		"near := " + deeper + ".down;":                                      api.ErrType,
		"near := " + deeper + ".down.down;":                                 api.OK,
		"near := near.up.down;":                                             api.OK,
		"put " + deeper + " = " + deeper + ";":                              api.OK,
		"put " + deeper + " = near.up;":                                     api.ErrType,
		"put " + deeper + " /= any;":                                        api.OK,
		"put " + deeper + " /= Void;":                                       api.OK,
		deeper + ".same (" + deeper + ");":                                  api.OK,
		deeper + ".same (near.up);":                                         api.ErrType,
		deeper + ".same (Void);":                                            api.ErrType,
		"near.up_same (near.up);":                                           api.OK,
		"near.up_same (" + deeper + ");":                                    api.ErrType,
		"if attached " + deeper + " as v then any := v; end;":               api.OK,
		"separate far as v do any := v.up; end;":                            api.ErrType,
		"separate far as v do put v.up = near.up; end;":                     api.OK,
		"separate far as v do separate v.up as w do any := near; end; end;": api.OK,
	} {
		l := system(t, strings.ReplaceAll(text, "%", deep)+body+" end end")
		checks(t, l, want)
		var all []api.Errno
		for _, f := range faultsOf(t, l) {
			all = append(all, f.Err)
		}
		if want != api.OK && !slices.Equal(all, []api.Errno{want}) {
			t.Error(body, all)
		}
		m, _ := measureOf(l)
		if !alike(faultsOf(t, l), m.faults()) {
			t.Error(body, faultsOf(t, l), m.faults())
		}
	}
	l := system(t, strings.ReplaceAll(text, "%", deep)+"any := "+deeper+"; end end")
	x, err := sure.TypeOf(l, "A", "f", 1)
	if wrong := kind.Right(l, "A", x); err != api.OK || wrong != api.ErrLimit {
		t.Error(x, err, wrong)
	}
	// A type of an ancestor that is too deep in a descendant is no valid one there.
	l = system(t, "class P [G: ANY] feature { ANY } p: L [G]; q (x: L [G]) do end end class L [G: ANY] end class A inherit P ["+deep+"]; feature { ANY } x: ANY; f do x := p; end g (y: ANY) do q (x); end h do p := Void; end i (a: A) do x := a.p; end end")
	var got []api.Fault
	for _, name := range []string{"f", "g", "h", "i"} {
		at := map[string]int{"f": 1, "g": 1, "h": 0, "i": 1}[name]
		got = append(got, api.Fault{Class: "A", Feature: name, At: at, Err: api.ErrType})
	}
	if faults := faultsOf(t, l); !alike(faults, got) {
		t.Error(faults)
	}
}

// includes tells whether all of some names are in a list.
func includes(l, some []string) bool {
	return !slices.ContainsFunc(some, func(x string) bool { return !slices.Contains(l, x) })
}

// P6.10: what is set stays so, in what follows in a list and within a statement; what is read is set.
func TestDefiniteAssignmentByChance(t *testing.T) {
	t.Parallel()
	reads, lists := 0, 0
	systems(67, 100, func(r chance, l []api.Class) {
		for _, c := range l {
			for _, f := range c.Features {
				if _, err := sure.Nodes(l, c.Name, f.Name); err != api.OK || r.one(2) {
					continue
				}
				set := func(at int) []string {
					names, err := sure.Set(l, c.Name, f.Name, at)
					if err != api.OK {
						t.Fatal(c.Name, f.Name, at, err, textOf(l))
					}
					return names
				}
				needed := map[string]bool{"Result": needs(f.Type)}
				for _, v := range f.Locals {
					needed[v.Name] = needs(v.Type)
				}
				ends := map[int]int{} // of each statement, the last node within it
				trees(f, func(at int, e api.Expr) {
					name := e.Name
					if e.Kind == api.ExResult {
						name = "Result"
					}
					isRead := e.Kind == api.ExResult || e.Kind == api.ExCall && e.N == 0
					if isRead && needed[name] {
						reads++
						if !slices.Contains(set(at), name) {
							t.Fatal(c.Name, f.Name, at, textOf(l))
						}
					}
				}, func(at int, s api.Stmt) {
					n, _ := sizeOf(nil, nil, []api.Stmt{s})
					ends[at] = at + n
				})
				from, _ := sizeOf(nil, f.Require)
				var follow func([]api.Stmt, int) int
				follow = func(l []api.Stmt, at int) int {
					for i := range l {
						next := ends[at]
						if i+1 < len(l) {
							lists++
							if !includes(set(next), set(at)) {
								t.Fatal(c.Name, f.Name, at)
							}
						}
						for inner := at + 1; inner < next; inner++ {
							if !includes(set(inner), set(at)) {
								t.Fatal(c.Name, f.Name, at, inner)
							}
						}
						at = next
					}
					return at
				}
				follow(f.Body, from)
			}
		}
	})
	if reads < 50 || lists < 200 {
		t.Error(reads, lists)
	}
}

// P6.11: what is used exists, and other features' bodies do not matter.
func TestUsesByChance(t *testing.T) {
	t.Parallel()
	uses, faults := 0, 0
	systems(68, 100, func(r chance, l []api.Class) {
		for _, c := range l {
			for _, f := range c.Features {
				list, err := sure.Uses(l, c.Name, f.Name)
				if err != api.OK {
					faults++
				}
				for _, x := range list {
					uses++
					if _, err := flat.MemberOf(l, x.Class, x.Name); err != api.OK {
						t.Fatal(x, textOf(l))
					}
				}
			}
		}
		at := pick(r, l...).Name
		other := copied(l)
		for i := range other {
			for j := range other[i].Features {
				f := &other[i].Features[j]
				if f.Kind == api.FeRoutine && (other[i].Name != at || r.one(2)) {
					f.Body, f.Rescue, f.Rescues = []api.Stmt{{Kind: pick(r, api.StRaise, api.StRetry, 11)}}, nil, false
				}
			}
		}
		for _, c := range other {
			for i, f := range c.Features {
				was := classOf(l, c.Name).Features[i]
				if !alike(f, was) {
					continue
				}
				_, err := sure.Nodes(l, c.Name, f.Name)
				if _, now := sure.Nodes(other, c.Name, f.Name); now != err {
					t.Fatal(c.Name, f.Name, now, err, textOf(l))
				}
			}
		}
	})
	if uses < 200 || faults < 20 {
		t.Error(uses, faults)
	}
}

// P6.12: clients.
func TestClientsByChance(t *testing.T) {
	t.Parallel()
	systems(69, 60, func(r chance, l []api.Class) {
		for _, c := range l {
			f, _ := flat.FlatOf(l, c.Name)
			for _, m := range f.Members {
				clients := map[string]bool{}
				for _, x := range l {
					clients[x.Name], _ = sure.Visible(l, x.Name, c.Name, m.Name)
				}
				for _, x := range l {
					above, _ := heir.Above(l, x.Name)
					isBelow := slices.ContainsFunc(above, func(a string) bool { return clients[a] })
					isNone := !slices.ContainsFunc(m.Clients, func(a string) bool { return a != "NONE" })
					switch {
					case isBelow && !clients[x.Name], slices.Contains(m.Clients, "ANY") && !clients[x.Name], isNone && clients[x.Name]:
						t.Fatal(x.Name, c.Name, m.Name, textOf(l))
					}
				}
			}
		}
	})
}

// P6.13: what creates objects of a class creates those of a descendant that is like it.
func TestCreationOfDescendants(t *testing.T) {
	t.Parallel()
	valid, other := 0, 0
	systems(70, 100, func(r chance, l []api.Class) {
		c := pick(r, l...)
		below := api.Class{Name: "Z", Deferred: c.Deferred, Formals: c.Formals, Parents: []api.Parent{{Name: c.Name}}}
		for _, f := range c.Formals {
			below.Parents[0].Args = append(below.Parents[0].Args, api.Type{Kind: api.TyFormal, Name: f.Name})
		}
		f, _ := flat.FlatOf(l, c.Name)
		below.Features = []api.Feature{{Kind: api.FeAttr, Name: "zz", Type: api.Type{Kind: api.TyInt}}}
		more := append(slices.Clone(l), below)
		for _, m := range f.Members {
			err, at, wrong := sure.Makes(l, c.Name, m.Name)
			now, node, last := sure.Makes(more, "Z", m.Name)
			if err == api.OK && wrong == api.OK {
				valid++
			} else {
				other++
			}
			// (Not only valid ones: all that is looked at is the same.)
			if now != err || node != at || last != wrong {
				t.Fatal(c.Name, m.Name, err, at, wrong, now, node, last, textOf(more))
			}
		}
	})
	if valid < 40 || other < 100 {
		t.Error(valid, other)
	}
}
