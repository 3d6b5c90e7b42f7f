package mean_test

import (
	"math/big"
	"testing"

	"cosigner/api"
	"cosigner/mean"
)

// calcs checks what Calc says of an expression.
func calcs(t *testing.T, e api.Expr, kind, n, fault int, err api.Errno) {
	t.Helper()
	if k, m, f, x := mean.Calc(e); k != kind || m != n || f != fault || x != err {
		t.Errorf("%v: %d %d, fault %d, error %d; want %d %d, %d, %d", e, k, m, f, x, kind, n, fault, err)
	}
}

// P7.1: what numbers and truths are, and the examples.
func TestCalc(t *testing.T) {
	t.Parallel()
	for text, want := range map[string][3]int{
		"7":                                 {api.TyInt, 7},
		"True":                              {api.TyBool, 1},
		"False":                             {api.TyBool, 0},
		"-7 // 2":                           {api.TyInt, -4},
		"-7 % 2":                            {api.TyInt, 1},
		"7 // -2":                           {api.TyInt, -4},
		"7 % -2":                            {api.TyInt, -1},
		"-7 // -2":                          {api.TyInt, 3},
		"-7 % -2":                           {api.TyInt, -1},
		"-8 // 2":                           {api.TyInt, -4},
		"-8 % 2":                            {api.TyInt, 0},
		"8 % -2":                            {api.TyInt, 0},
		"0 // -3":                           {api.TyInt, 0},
		"0 % -3":                            {api.TyInt, 0},
		"1 // 5":                            {api.TyInt, 0},
		"-1 // 5":                           {api.TyInt, -1},
		"-1 % 5":                            {api.TyInt, 4},
		"2 + 3 * 4 - 1":                     {api.TyInt, 13},
		"- (2 - 5)":                         {api.TyInt, 3},
		"1099511627776":                     {api.TyInt, api.MaxNum},
		"1099511627775 + 1":                 {api.TyInt, api.MaxNum},
		"- 1099511627775 - 1":               {api.TyInt, -api.MaxNum},
		"1048576 * 1048576":                 {api.TyInt, api.MaxNum},
		"1048576 * - 1048576":               {api.TyInt, -api.MaxNum},
		"- 1099511627776 // -1":             {api.TyInt, api.MaxNum},
		"1099511627776 * 0":                 {api.TyInt, 0},
		"1099511627776 * -1":                {api.TyInt, -api.MaxNum},
		"1099511627776 + 1":                 {0, 0, api.FaOver},
		"- 1099511627776 - 1":               {0, 0, api.FaOver},
		"1048577 * 1048576":                 {0, 0, api.FaOver},
		"1048576 * -1048577":                {0, 0, api.FaOver},
		"1099511627776 * 1099511627776":     {0, 0, api.FaOver},
		"1099511627776 * 16777216":          {0, 0, api.FaOver}, // 2^64, which an int takes for 0
		"1 // 0":                            {0, 0, api.FaZero},
		"0 // 0":                            {0, 0, api.FaZero},
		"1 % 0":                             {0, 0, api.FaZero},
		"1 // 0 = Void":                     {0, 0, api.FaZero},
		"1099511627776 + 1 + 1 // 0":        {0, 0, api.FaOver},
		"1 = 1 or 1 // 0 = 0":               {api.TyBool, 1},
		"False and 1 // 0 = 0":              {api.TyBool, 0},
		"False implies 1 // 0 = 0":          {api.TyBool, 1},
		"True implies 1 // 0 = 0":           {0, 0, api.FaZero},
		"True and 1 // 0 = 0":               {0, 0, api.FaZero},
		"False or 1 // 0 = 0":               {0, 0, api.FaZero},
		"True or Void":                      {api.TyBool, 1},
		"not True":                          {api.TyBool, 0},
		"not (1 = 2)":                       {api.TyBool, 1},
		"True = True":                       {api.TyBool, 1},
		"True = False":                      {api.TyBool, 0},
		"True /= False":                     {api.TyBool, 1},
		"3 = 3":                             {api.TyBool, 1},
		"3 /= 3":                            {api.TyBool, 0},
		"3 /= 4":                            {api.TyBool, 1},
		"3 < 4":                             {api.TyBool, 1},
		"4 < 4":                             {api.TyBool, 0},
		"4 <= 4":                            {api.TyBool, 1},
		"5 <= 4":                            {api.TyBool, 0},
		"5 > 4":                             {api.TyBool, 1},
		"4 > 4":                             {api.TyBool, 0},
		"4 >= 4":                            {api.TyBool, 1},
		"3 >= 4":                            {api.TyBool, 0},
		"True implies False implies False":  {api.TyBool, 1},
		"(True implies False) implies True": {api.TyBool, 1},
	} {
		calcs(t, exprOf(t, text), want[0], want[1], want[2], api.OK)
	}
}

// P7.1: what goes wrong.
func TestCalcWrong(t *testing.T) {
	t.Parallel()
	for _, text := range []string{
		"Void", "Current", "Result", "x", "x (1)", "f (1 // 0)", "(1).f", "Current.f", "old 1", "attached Void as x", "attached 1 as x",
		"True + 1", "1 + True", "True < 1", "1 < True", "- True", "not 1", "1 and True", "True and 1", "1 or True", "False or 1",
		"1 implies True", "True implies 1", "1 = True", "True /= 1", "Void = Void", "True + 1 // 0", "1 = True or 1 // 0 = 0", "Void = 1 // 0",
	} {
		calcs(t, exprOf(t, text), 0, 0, 0, api.ErrType)
	}
	one, zero := integer(1), binary("//", integer(1), integer(0))
	for _, e := range []api.Expr{
		{}, {Kind: -1}, {Kind: 11}, integer(-1), integer(api.MaxNum + 1),
		{Kind: api.ExInt, N: 1, Kids: []api.Expr{one}}, {Kind: api.ExBool, N: 2}, {Kind: api.ExBool, N: -1}, {Kind: api.ExBool, Kids: []api.Expr{one}},
		{Kind: api.ExBin, Name: "+"}, {Kind: api.ExBin, Name: "+", Kids: []api.Expr{zero}}, {Kind: api.ExBin, Name: "+", Kids: []api.Expr{zero, one, one}},
		{Kind: api.ExUn, Name: "-"}, {Kind: api.ExUn, Name: "-", Kids: []api.Expr{zero, one}}, {Kind: api.ExUn, Name: "+", Kids: []api.Expr{zero}},
		binary("?", one, one), binary("", one, one), binary("?", api.Expr{Kind: api.ExBool}, zero), binary("not", one, one),
	} {
		calcs(t, e, 0, 0, 0, api.ErrType)
	}
	calcs(t, binary("?", zero, one), 0, 0, api.FaZero, api.OK) // the sides of an operator that there is not are reckoned
	calcs(t, binary("?", one, zero), 0, 0, api.FaZero, api.OK)
	calcs(t, api.Expr{Kind: api.ExInt, N: 5, Name: "x"}, api.TyInt, 5, 0, api.OK) // a name is no part
}

// nested returns an expression that is nested so deep, with another one innermost.
func nested(deep int, in api.Expr) api.Expr {
	for range deep - 1 {
		in = api.Expr{Kind: api.ExUn, Name: "-", Kids: []api.Expr{in}}
	}
	return in
}

// P7.1: how deep an expression may be nested.
func TestCalcLimit(t *testing.T) {
	t.Parallel()
	calcs(t, nested(api.MaxNest, integer(1)), api.TyInt, -1, 0, api.OK)
	calcs(t, nested(api.MaxNest+1, integer(1)), 0, 0, 0, api.ErrLimit)
	calcs(t, nested(api.MaxNest+1, api.Expr{Kind: api.ExVoid}), 0, 0, 0, api.ErrLimit)
	calcs(t, nested(api.MaxNest, api.Expr{Kind: api.ExVoid}), 0, 0, 0, api.ErrType)
	shorted := binary("or", api.Expr{Kind: api.ExBool, N: 1}, nested(api.MaxNest, integer(1)))
	calcs(t, shorted, 0, 0, 0, api.ErrLimit)
	calcs(t, binary("+", nested(api.MaxNest-1, integer(1)), integer(1)), api.TyInt, 2, 0, api.OK)
}

// reckoned returns what an operator of numbers makes of two of them by numbers of any size, its exception, and whether there is this operator.
func reckoned(op string, a, b int) (int, int, bool) {
	x, y, z := big.NewInt(int64(a)), big.NewInt(int64(b)), new(big.Int)
	switch op {
	case "+":
		z.Add(x, y)
	case "-":
		z.Sub(x, y)
	case "*":
		z.Mul(x, y)
	case "//", "%":
		if b == 0 {
			return 0, api.FaZero, true
		}
		rest := new(big.Int).Mod(x, y) // from 0 on, whichever sign the divisor has
		if y.Sign() < 0 && rest.Sign() > 0 {
			rest.Add(rest, y)
		}
		z.Set(rest)
		if op == "//" {
			z.Sub(x, rest)
			z.Quo(z, y)
		}
	default:
		return 0, 0, false
	}
	if z.CmpAbs(big.NewInt(api.MaxNum)) > 0 {
		return 0, api.FaOver, true
	}
	return int(z.Int64()), 0, true
}

// signed returns an expression for a number.
func signed(n int) api.Expr {
	if n < 0 {
		return api.Expr{Kind: api.ExUn, Name: "-", Kids: []api.Expr{integer(-n)}}
	}
	return integer(n)
}

// sample returns numbers by chance, many of which are at limits.
func (r chance) sample() int {
	n := pick(r, 0, 1, 2, 3, 7, 1<<20, api.MaxNum, r.Intn(api.MaxNum+1), r.Intn(1<<21), r.Intn(20)) - r.Intn(2)
	return max(n, 0) * pick(r, 1, -1)
}

// P7.1, P7.15: numbers are a ring as far as no exception happens, // and % belong together, and numbers of any size say the same.
func TestNumbers(t *testing.T) {
	t.Parallel()
	r := newChance(72)
	calc := func(e api.Expr) (int, int) {
		_, n, fault, err := mean.Calc(e)
		if err != api.OK {
			t.Fatal(e, err)
		}
		return n, fault
	}
	for range 20000 {
		a, b, c := r.sample(), r.sample(), r.sample()
		for _, op := range []string{"+", "-", "*", "//", "%"} {
			n, fault := calc(binary(op, signed(a), signed(b)))
			if m, f, _ := reckoned(op, a, b); n != m || fault != f {
				t.Fatal(a, op, b, n, fault, m, f)
			}
		}
		x, y, z := signed(a), signed(b), signed(c)
		for _, same := range [][2]api.Expr{
			{binary("+", x, y), binary("+", y, x)},
			{binary("*", x, y), binary("*", y, x)},
			{binary("+", binary("+", x, y), z), binary("+", x, binary("+", y, z))},
			{binary("*", binary("*", x, y), z), binary("*", x, binary("*", y, z))},
			{binary("*", x, binary("+", y, z)), binary("+", binary("*", x, y), binary("*", x, z))},
			{binary("-", x, y), binary("+", x, api.Expr{Kind: api.ExUn, Name: "-", Kids: []api.Expr{y}})},
			{x, binary("+", binary("*", y, binary("//", x, y)), binary("%", x, y))},
		} {
			n, f := calc(same[0])
			m, g := calc(same[1])
			if f == 0 && g == 0 && n != m {
				t.Fatal(a, b, c, same, n, m)
			}
		}
		if rest, fault := calc(binary("%", x, y)); fault == 0 && rest != 0 && (rest < 0) != (b < 0) || abs(rest) >= max(abs(b), 1) {
			t.Fatal(a, b, rest)
		}
	}
}

func abs(n int) int { return max(n, -n) }

// P7.15: and, or, implies and not are those of truths; <= is not >, < is not >=, /= is not =.
func TestTruths(t *testing.T) {
	t.Parallel()
	is := func(e api.Expr) bool {
		kind, n, fault, err := mean.Calc(e)
		if kind != api.TyBool || fault != 0 || err != api.OK {
			t.Fatal(e, kind, fault, err)
		}
		return n == 1
	}
	not := func(e api.Expr) api.Expr { return api.Expr{Kind: api.ExUn, Name: "not", Kids: []api.Expr{e}} }
	for n := range 4 {
		a, b := n&1 == 1, n&2 == 2
		x, y := api.Expr{Kind: api.ExBool, N: n & 1}, api.Expr{Kind: api.ExBool, N: n >> 1}
		if is(binary("and", x, y)) != (a && b) || is(binary("or", x, y)) != (a || b) || is(binary("implies", x, y)) != (!a || b) || is(not(x)) != !a || is(binary("=", x, y)) != (a == b) {
			t.Error(a, b)
		}
	}
	r := newChance(73)
	for range 2000 {
		a, b := r.sample(), r.sample()
		if r.one(4) {
			b = a
		}
		x, y := signed(a), signed(b)
		if is(binary("<=", x, y)) != is(not(binary(">", x, y))) || is(binary("<", x, y)) != is(not(binary(">=", x, y))) || is(binary("/=", x, y)) != is(not(binary("=", x, y))) ||
			is(binary("<", x, y)) != (a < b) || is(binary("=", x, y)) != (a == b) || is(binary(">", x, y)) != (a > b) {
			t.Fatal(a, b)
		}
	}
}
