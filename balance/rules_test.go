package balance_test

import (
	"math"
	"testing"

	"commodatum/api"
	"commodatum/balance"
)

// call is a function of a formula, with all of its other arguments.
type call struct {
	name string
	run  func(api.Formula) (api.Formula, api.Errno)
}

// calls are all functions of a formula. Some of the inputs for Fix are none.
func calls() []call {
	list := []call{{"Push", balance.Push}, {"Balance", balance.Balance}, {"Simple", balance.Simple}}
	for _, input := range []int{0, 1, 15, 16, -1, math.MaxInt, math.MinInt} {
		list = append(list, call{"Fix", func(f api.Formula) (api.Formula, api.Errno) { return balance.Fix(f, input, input != 1) }})
	}
	return list
}

// badFormulas are formulas that are not valid, by what is wrong with them.
func badFormulas() map[string]api.Formula {
	leaf := x(0)
	endless := []api.Formula{{Kind: api.FNot}}
	endless[0].Kids = endless
	both := []api.Formula{{Kind: api.FAnd}, {Kind: api.FXor}}
	both[0].Kids, both[1].Kids = both, both
	twice := func(f api.Formula) api.Formula { return xor(f, f) }
	return map[string]api.Formula{
		"an FVar with N -1":               x(-1),
		"an FVar with N 16":               x(api.MaxInputs),
		"an FVar with the greatest N":     x(math.MaxInt),
		"an FConst with N 2":              bit(2),
		"an FConst with N -1":             bit(-1),
		"an FVar with a kid":              node(api.FVar, leaf),
		"an FConst with two kids":         node(api.FConst, leaf, leaf),
		"an FNot without kids":            node(api.FNot),
		"an FNot with two kids":           node(api.FNot, leaf, leaf),
		"an FNot with N 1":                {Kind: api.FNot, N: 1, Kids: []api.Formula{leaf}},
		"an FAnd without kids":            node(api.FAnd),
		"an FAnd with N 1":                {Kind: api.FAnd, N: 1, Kids: []api.Formula{leaf, leaf}},
		"an FOr with one kid":             node(api.FOr, leaf),
		"an FXor with three kids":         node(api.FXor, leaf, leaf, leaf),
		"an unknown kind -1":              node(-1),
		"an unknown kind 6 with two kids": node(api.FKinds, leaf, leaf),
		"the greatest kind":               node(math.MaxInt, leaf),
		"MaxNodes + 1 nodes":              balanced(and, repeated(x(1), 10001)),
		"MaxDepth + 1 nested":             nested(not, leaf, api.MaxDepth),
		"MaxDepth + 1 nested in pairs":    nested(func(f api.Formula) api.Formula { return or(f, leaf) }, leaf, api.MaxDepth),
		"2^61 - 1 nodes":                  nested(twice, leaf, 60),
		"a list of kids that contains it": {Kind: api.FNot, Kids: endless},
		"two kids that contain them":      both[0],
	}
}

// R1 to R3: a formula that is not valid is reported before everything else.
func TestFormulaErrForm(t *testing.T) {
	for name, bad := range badFormulas() {
		for _, f := range []api.Formula{bad, not(bad), and(bit(0), bad), or(bad, bit(1)), xor(x(0), not(bad))} {
			for _, c := range calls() {
				if g, e := c.run(f); e != api.ErrForm || !isZero(g) {
					t.Errorf("%s of %s = %s, %v", c.name, name, brief(g), e)
				}
			}
		}
	}
}

// badExprs are expressions that are not valid over f, by what is wrong with them.
func badExprs(f api.Field) map[string]api.Expr {
	leaf := in(0)
	endless := []api.Expr{{Kind: api.EAdd}, leaf}
	endless[0].Kids = endless
	twice := func(e api.Expr) api.Expr { return times(e, e) }
	return map[string]api.Expr{
		"an EVar with N -1":               in(-1),
		"an EVar with N 16":               in(api.MaxInputs),
		"an EConst with N -1":             number(-1),
		"an EConst with the order":        number(orderOf(f)),
		"an EConst with the greatest N":   number(math.MaxInt),
		"an EVar with a kid":              exprNode(api.EVar, leaf),
		"an EConst with two kids":         exprNode(api.EConst, leaf, leaf),
		"an EAdd without kids":            exprNode(api.EAdd),
		"an EAdd with N 1":                {Kind: api.EAdd, N: 1, Kids: []api.Expr{leaf, leaf}},
		"an EMul with one kid":            exprNode(api.EMul, leaf),
		"an EMul with three kids":         exprNode(api.EMul, leaf, leaf, leaf),
		"an unknown kind -1":              exprNode(-1),
		"an unknown kind 4 with two kids": exprNode(api.EKinds, leaf, leaf),
		"MaxNodes + 1 nodes":              balanced(sum, repeated(leaf, 10001)),
		"MaxDepth + 1 nested":             nested(func(e api.Expr) api.Expr { return times(e, leaf) }, leaf, api.MaxDepth),
		"2^61 - 1 nodes":                  nested(twice, leaf, 60),
		"a kid that contains itself":      endless[0],
	}
}

func TestExprErrForm(t *testing.T) {
	for _, f := range sampleFields() {
		for name, bad := range badExprs(f) {
			for _, e := range []api.Expr{bad, sum(bad, in(0)), times(number(0), bad), times(in(1), sum(number(1), bad))} {
				if g, err := balance.BalanceExpr(f, e); err != api.ErrForm || !isZeroExpr(g) {
					t.Errorf("%v: BalanceExpr of %s = %s, %v", f, name, briefExpr(g), err)
				}
			}
		}
	}
	for _, f := range notFields() {
		for _, e := range []api.Expr{in(0), number(0), number(1), sum(in(0), number(1)), in(16), exprNode(9)} {
			if g, err := balance.BalanceExpr(f, e); err != api.ErrForm || !isZeroExpr(g) {
				t.Errorf("%v: BalanceExpr of %s = %s, %v", f, briefExpr(e), briefExpr(g), err)
			}
		}
	}
}

// R5 and R6: two calls have the same result, in different memory, whatever is called between them.
func TestRepeated(t *testing.T) {
	formulas := append(someFormulas(18, 60), chain(200, api.FXor, api.FAnd, api.FOr), balanced(xor, repeated(x(1), 40)))
	for _, c := range calls() {
		var first []api.Formula
		for _, f := range formulas {
			g, _ := c.run(f)
			first = append(first, g)
		}
		for i := len(formulas) - 1; i >= 0; i-- {
			again, _ := c.run(formulas[i])
			if !equal(first[i], again) {
				t.Fatalf("%s of %s = %s and then %s", c.name, brief(formulas[i]), brief(first[i]), brief(again))
			}
			m := memory{}
			m.addFormula(t, first[i])
			m.addFormula(t, again)
		}
	}
	random := source(19)
	for _, f := range sampleFields() {
		for size := 1; size < 70; size++ {
			e := random.expr(f, size, 5, 100)
			first, _ := balance.BalanceExpr(f, e)
			again, _ := balance.BalanceExpr(f, e)
			if !equalExpr(first, again) {
				t.Fatalf("%v: BalanceExpr of %s = %s and then %s", f, briefExpr(e), briefExpr(first), briefExpr(again))
			}
			m := memory{}
			m.addExpr(t, first)
			m.addExpr(t, again)
		}
	}
}

// Arguments may share memory with themselves; results do not.
func TestSharedArguments(t *testing.T) {
	twice := func(f api.Formula) api.Formula { return xor(and(f, x(4)), not(f)) }
	for levels := range 6 {
		f := nested(twice, not(x(3)), levels)
		checkPush(t, f)
		checkBalance(t, f)
		checkSimple(t, f)
		checkFix(t, f, 3, true)
		checkFix(t, f, 9, true)
		checkBalanceExpr(t, seven, nested(func(e api.Expr) api.Expr { return sum(times(e, in(4)), e) }, in(3), levels))
	}
}

// R4: it does not matter whether what is empty is nil.
func TestNil(t *testing.T) {
	leaf, constant := x(1), bit(1)
	leaf.Kids, constant.Kids = []api.Formula{}, make([]api.Formula, 0, 5)
	for _, c := range calls() {
		for _, pair := range [][2]api.Formula{{leaf, x(1)}, {constant, bit(1)}, {xor(leaf, constant), xor(x(1), bit(1))}, {or(x(0), leaf), or(x(0), x(1))}} {
			g, e := c.run(pair[0])
			if h, err := c.run(pair[1]); e != err || !equal(g, h) {
				t.Errorf("%s with empty lists of kids = %s, %v; want %s, %v", c.name, brief(g), e, brief(h), err)
			}
		}
	}
	input, value := in(1), number(1)
	input.Kids, value.Kids = []api.Expr{}, make([]api.Expr, 0, 5)
	g, e := balance.BalanceExpr(three, sum(input, times(value, in(0))))
	if h, err := balance.BalanceExpr(three, sum(in(1), times(number(1), in(0)))); e != api.OK || err != api.OK || !equalExpr(g, h) {
		t.Errorf("BalanceExpr with empty lists of kids = %s, %v; want %s, %v", briefExpr(g), e, briefExpr(h), err)
	}
}
