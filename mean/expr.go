package mean

import "cosigner/api"

// value reckons an expression.
func (f *frame) value(e *api.Expr) api.Val {
	v, _ := f.reckon(e)
	return v
}

// number reckons an expression that must be a number.
func (f *frame) number(e *api.Expr) int {
	v := f.value(e)
	need(v.Kind == api.VaInt)
	return v.N
}

// truth reckons an expression that must be a truth.
func (f *frame) truth(e *api.Expr) bool {
	v := f.value(e)
	need(v.Kind == api.VaBool)
	return v.N == 1
}

// values reckons expressions.
func (f *frame) values(l []api.Expr) []api.Val {
	out := make([]api.Val, 0, len(l))
	for i := range l {
		v := f.value(&l[i])
		out = append(out, v)
	}
	return out
}

// reckon reckons an expression, and returns its declared type as well.
func (f *frame) reckon(e *api.Expr) (api.Val, declared) {
	f.step()
	need(hasExprForm(e) && (f.words != nil || isPlain(e.Kind)))
	switch e.Kind {
	case api.ExInt:
		return number(e.N), declared{}
	case api.ExBool:
		return truth(e.N == 1), declared{}
	case api.ExVoid:
		return api.Val{Kind: api.VaVoid}, declared{}
	case api.ExCurrent:
		return api.Val{Kind: api.VaRef, N: f.at}, declared{is: &f.words.self}
	case api.ExResult:
		need(f.result != nil)
		return f.result.value, f.result.typed
	case api.ExCall:
		return f.called(e, true)
	case api.ExBin:
		return f.binary(e), declared{}
	case api.ExUn:
		return f.unary(e), declared{}
	case api.ExOld:
		need(f.old != nil)
		return f.old(e), declared{}
	}
	return f.attached(e), declared{}
}

func (f *frame) binary(e *api.Expr) api.Val {
	left, right := &e.Kids[0], &e.Kids[1]
	switch e.Name {
	case "and":
		return truth(f.truth(left) && f.truth(right))
	case "or":
		return truth(f.truth(left) || f.truth(right))
	case "implies":
		return truth(!f.truth(left) || f.truth(right))
	case "=", "/=":
		a := f.value(left)
		b := f.value(right)
		need(a.Kind == b.Kind || isObject(a) && isObject(b))
		return truth((a == b) == (e.Name == "="))
	}
	a := f.number(left)
	b := f.number(right)
	if is, known := compared(e.Name, a, b); known {
		return truth(is)
	}
	n, fault, known := calculated(e.Name, a, b)
	need(known)
	if fault != 0 {
		f.raise(fault)
	}
	return number(n)
}

func (f *frame) unary(e *api.Expr) api.Val {
	switch e.Name {
	case "not":
		return truth(!f.truth(&e.Kids[0]))
	case "-":
		return number(-f.number(&e.Kids[0]))
	}
	panic(api.ErrType)
}

func (f *frame) attached(e *api.Expr) api.Val {
	v, t := f.reckon(&e.Kids[0])
	if v.Kind == api.VaVoid {
		return truth(false)
	}
	f.bind(e.Name, variable{value: v, typed: t})
	return truth(true)
}
