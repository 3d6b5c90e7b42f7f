package read

import "cosigner/api"

func (w *writer) stmts(l []api.Stmt) {
	for _, s := range l {
		w.stmt(s)
		w.put(";")
	}
}

// stmt puts down a statement without its semicolon.
func (w *writer) stmt(s api.Stmt) {
	switch s.Kind {
	case api.StAssign:
		w.put(s.Name, ":=")
		w.part(s.Exprs, 0)
	case api.StCall:
		w.part(s.Exprs, 0)
	case api.StMake:
		w.put("create", s.Name, ".")
		w.part(s.Exprs, 0)
	case api.StIf:
		w.put("if")
		w.part(s.Exprs, 0)
		w.put("then")
		w.stmts(s.Body)
		putOption(w, "else", s.Else, w.stmts)
		w.put("end")
	case api.StLoop:
		w.loop(s)
	case api.StCheck:
		w.put("check")
		w.asserts(s.Tags)
		w.put("end")
	case api.StSep:
		w.separate(s)
	case api.StRetry:
		w.put("retry")
	case api.StRaise:
		w.put("raise")
		w.number(s.N)
	case api.StPut:
		w.put("put")
		w.part(s.Exprs, 0)
	}
}

func (w *writer) loop(s api.Stmt) {
	w.put("from")
	w.stmts(s.Init)
	putOption(w, "invariant", s.Tags, w.asserts)
	w.put("until")
	w.part(s.Exprs, 0)
	w.second("variant", s.Exprs)
	w.put("loop")
	w.stmts(s.Body)
	w.put("end")
}

func (w *writer) separate(s api.Stmt) {
	w.put("separate")
	w.part(s.Exprs, 0)
	w.put("as", s.Name)
	w.second("when", s.Exprs)
	w.put("do")
	w.stmts(s.Body)
	w.put("end")
}

// part puts down one of a statement's expressions, at a place where any may stand.
func (w *writer) part(l []api.Expr, i int) {
	w.expr(partOf(l, i))
}

// second puts down the second one of a statement's expressions behind a word, if there is one.
func (w *writer) second(word string, l []api.Expr) {
	if len(l) > 1 {
		w.put(word)
		w.part(l, 1)
	}
}

// partOf returns one of some expressions; one of no kind if there is none, as a tree may have too few.
func partOf(l []api.Expr, i int) api.Expr {
	if i < len(l) {
		return l[i]
	}
	return api.Expr{}
}

// expr puts down an expression at a place where any may stand.
func (w *writer) expr(e api.Expr) {
	w.atLevel(e, levelImplies)
}

// atLevel puts down an expression at a place where those of a level at least may stand without brackets.
func (w *writer) atLevel(e api.Expr, least int) {
	if w.levelOf(e) >= least {
		w.bare(e)
		return
	}
	w.put("(")
	w.bare(e)
	w.put(")")
}

func (w *writer) levelOf(e api.Expr) int {
	switch e.Kind {
	case api.ExBin:
		return w.levels[e.Name]
	case api.ExUn, api.ExOld:
		return levelFront
	}
	return levelCall
}

// bare puts down an expression without brackets around it.
func (w *writer) bare(e api.Expr) {
	switch e.Kind {
	case api.ExInt:
		w.number(e.N)
	case api.ExBool:
		w.put(truth(e.N))
	case api.ExVoid:
		w.put("Void")
	case api.ExCurrent:
		w.put("Current")
	case api.ExResult:
		w.put("Result")
	case api.ExCall:
		w.call(e)
	case api.ExBin:
		left, right := sides(w.levelOf(e))
		w.atLevel(partOf(e.Kids, 0), left)
		w.put(e.Name)
		w.atLevel(partOf(e.Kids, 1), right)
	case api.ExUn:
		w.put(e.Name)
		w.atLevel(partOf(e.Kids, 0), levelFront)
	case api.ExOld:
		w.put("old")
		w.atLevel(partOf(e.Kids, 0), levelFront)
	case api.ExAttached:
		w.put("attached")
		w.atLevel(partOf(e.Kids, 0), levelCall)
		w.put("as", e.Name)
	}
}

// truth returns the word of a truth.
func truth(n int) string {
	if n == 0 {
		return "False"
	}
	return "True"
}

func (w *writer) call(e api.Expr) {
	args := e.Kids
	if e.N == 1 {
		w.atLevel(partOf(e.Kids, 0), levelCall)
		w.put(".")
		args = args[min(1, len(args)):]
	}
	w.put(e.Name)
	putOption(w, "(", args, func(l []api.Expr) {
		putList(w, ",", l, w.expr)
		w.put(")")
	})
}
