package mean

import (
	"math"

	"cosigner/api"
)

// Calc returns what an expression of numbers and truths is: its kind, and the number; or its exception.
func Calc(x api.Expr) (int, int, int, api.Errno) {
	if isDeeper(x, api.MaxNest) {
		return 0, 0, 0, api.ErrLimit
	}
	f := &frame{run: &run{limit: math.MaxInt}}
	var v api.Val
	end, err := untilWrong(func() { v = f.value(&x) })
	switch {
	case err != api.OK || end.Fault != 0:
		return 0, 0, end.Fault, err
	case v.Kind == api.VaInt:
		return api.TyInt, v.N, 0, api.OK
	}
	return api.TyBool, v.N, 0, api.OK
}

// isDeeper tells whether an expression is nested more than so deep.
func isDeeper(x api.Expr, most int) bool {
	if most == 0 {
		return true
	}
	for _, kid := range x.Kids {
		if isDeeper(kid, most-1) {
			return true
		}
	}
	return false
}

// calculated returns what an operator of numbers makes of two of them, its exception, and whether there is this operator.
func calculated(operator string, a, b int) (n, fault int, known bool) {
	switch operator {
	case "+":
		n = a + b
	case "-":
		n = a - b
	case "*":
		if b != 0 && abs(a) > api.MaxNum/abs(b) {
			return 0, api.FaOver, true // the product may be beyond what an int holds
		}
		n = a * b
	case "//", "%":
		if b == 0 {
			return 0, api.FaZero, true
		}
		n = down(a, b)
		if operator == "%" {
			n = a - b*n
		}
	default:
		return 0, 0, false
	}
	if !isNumber(n) {
		return 0, api.FaOver, true
	}
	return n, 0, true
}

// isNumber tells whether the language has a number.
func isNumber(n int) bool {
	return n >= -api.MaxNum && n <= api.MaxNum
}

// compared returns what an operator that compares numbers says of two of them, and whether there is this operator.
func compared(operator string, a, b int) (is, known bool) {
	switch operator {
	case "<":
		return a < b, true
	case "<=":
		return a <= b, true
	case ">":
		return a > b, true
	case ">=":
		return a >= b, true
	}
	return false, false
}

// down divides, and rounds downwards.
func down(a, b int) int {
	n := a / b
	if a%b != 0 && (a < 0) != (b < 0) {
		n--
	}
	return n
}

func abs(n int) int {
	return max(n, -n)
}
