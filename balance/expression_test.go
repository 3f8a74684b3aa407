package balance_test

import (
	"testing"

	"commodatum/api"
	"commodatum/balance"
	"commodatum/formula"
)

// wantBalanceExpr fails unless BalanceExpr returns OK.
func wantBalanceExpr(t *testing.T, f api.Field, e api.Expr) {
	t.Helper()
	if err := checkBalanceExpr(t, f, e); err != api.OK {
		t.Errorf("%v: BalanceExpr of %s with %v: error %v", f, briefExpr(e), numbersOfExpr(e), err)
	}
}

func TestExprSmall(t *testing.T) {
	for _, f := range sampleFields() {
		leaves := []api.Expr{in(0), in(15), number(0), number(1), number(orderOf(f) - 1)}
		for count := 1; count <= 3; count++ {
			for _, e := range allExprs(count, leaves...) {
				wantBalanceExpr(t, f, e)
			}
		}
	}
}

func TestExprSamples(t *testing.T) {
	random := source(14)
	for _, f := range sampleFields() {
		for _, size := range []int{1, 2, 3, 4, 5, 8, 9, 12, 16, 17, 25, 32, 33, 40, 59, 60, 61, 100, 300, 1000, 5000} {
			for _, skew := range []int{1, 3, 10, 30, 1000} {
				// If it is nested too deep, it is no argument.
				if e := random.expr(f, size, 1+random.below(16), skew); formula.ValidExpr(f, e) {
					checkBalanceExpr(t, f, e)
				}
			}
		}
	}
}

// exprTurns are kinds that take turns in chains.
func exprTurns() [][]int {
	return [][]int{{api.EAdd}, {api.EMul}, {api.EAdd, api.EMul}, {api.EMul, api.EMul, api.EAdd}, {api.EAdd, api.EAdd, api.EMul}}
}

// Chains of all sizes, among them the powers of 2 and the sizes that are 1 more.
func TestExprChains(t *testing.T) {
	for _, f := range sampleFields() {
		for _, kinds := range exprTurns() {
			for size := 1; size <= 60; size++ {
				wantBalanceExpr(t, f, exprChain(f, size, kinds...))
			}
			for _, size := range []int{61, 64, 65, 127, 128, 129, 256, 257, 512, 513, 999, 1000} {
				wantBalanceExpr(t, f, exprChain(f, size, kinds...))
			}
		}
	}
}

// All sorts of deep expressions of 60 leaves: ErrSize is never returned.
func TestExprSixty(t *testing.T) {
	random := source(15)
	for _, f := range sampleFields() {
		for range 100 {
			wantBalanceExpr(t, f, random.expr(f, 60, 16, 1+random.below(60)))
		}
		for _, kinds := range exprTurns() {
			for _, part := range []int{2, 3, 4, 5, 8} {
				wantBalanceExpr(t, f, exprCombs(f, 60, part, kinds))
			}
		}
	}
}

// exprCombs returns an expression of that size: a chain of that part of the leaves, joined with another such expression.
func exprCombs(f api.Field, size, part int, kinds []int) api.Expr {
	if size < 2*part {
		return exprChain(f, size, kinds...)
	}
	first := size / part
	return exprNode(kinds[len(kinds)-1], exprChain(f, first, kinds...), exprCombs(f, size-first, part, kinds))
}

// Far beyond, there may be an error.
func TestExprGreat(t *testing.T) {
	random := source(16)
	for _, f := range []api.Field{two, prime, binary} {
		leaves := repeated(in(0), 10000)
		for i := range leaves {
			leaves[i] = in(random.below(api.MaxInputs))
		}
		wantBalanceExpr(t, f, balanced(sum, leaves))
		wantBalanceExpr(t, f, balanced(times, leaves))
		for _, kinds := range exprTurns() {
			checkBalanceExpr(t, f, exprCombs(f, 990, 3, kinds))
			checkBalanceExpr(t, f, exprCombs(f, 3000, 9, kinds))
		}
		for _, skew := range []int{1, 5, 30, 100} {
			checkBalanceExpr(t, f, random.expr(f, 10000, 16, skew))
		}
		for _, width := range []int{1, 4, 8, 10} {
			checkBalanceExpr(t, f, nested(func(e api.Expr) api.Expr {
				return times(balanced(sum, leaves[:width]), sum(e, balanced(times, leaves[width:2*width])))
			}, in(1), 496))
		}
	}
}

// Needless numbers disappear, and nothing else does: over GF(2), x^2 and x are different, and x + x is 0.
func TestExprPolynomials(t *testing.T) {
	for _, s := range []struct {
		f      api.Field
		e      api.Expr
		wanted string
	}{
		{two, times(in(0), in(0)), "1*x0^2"},
		{two, sum(in(0), in(0)), "0"},
		{two, sum(sum(in(1), in(0)), sum(in(0), in(1))), "0"},
		{three, sum(in(0), sum(in(0), in(0))), "0"},
		{seven, times(number(0), in(3)), "0"},
		{seven, times(in(3), number(0)), "0"},
		{seven, sum(times(in(3), number(0)), number(0)), "0"},
		{seven, times(times(number(3), number(5)), in(0)), "1*x0"},
		{seven, times(sum(number(3), number(4)), in(0)), "0"},
		{seven, times(number(2), number(0)), "0"},
		{four, sum(times(number(2), in(0)), times(in(0), number(3))), "1*x0"},
		{four, sum(number(1), sum(number(1), in(1))), "1*x1"},
	} {
		wantBalanceExpr(t, s.f, s.e)
		g, _ := balance.BalanceExpr(s.f, s.e)
		if text := textOf(t, s.f, g, 4); text != s.wanted {
			t.Errorf("%v: BalanceExpr of %s = %s: %s; want %s", s.f, briefExpr(s.e), briefExpr(g), text, s.wanted)
		}
	}
}

// Deep expressions whose polynomial is 0, and numbers 0 and 1 in all places.
func TestExprZero(t *testing.T) {
	random := source(17)
	for _, f := range sampleFields() {
		minus := number(orderOf(f) - 1)
		if f.P == 2 {
			minus = number(1)
		}
		for _, size := range []int{1, 2, 7, 15, 29} {
			for _, kinds := range exprTurns() {
				e := exprChain(f, size, kinds...)
				wantBalanceExpr(t, f, sum(e, times(e, minus)))
				wantBalanceExpr(t, f, times(e, number(0)))
				wantBalanceExpr(t, f, nested(func(e api.Expr) api.Expr { return times(e, number(1)) }, times(number(0), e), 29))
			}
		}
		for range 50 {
			e := nested(func(e api.Expr) api.Expr {
				return exprNode(api.EAdd+random.below(2), e, []api.Expr{number(0), number(1), in(random.below(16))}[random.below(3)])
			}, in(0), 59)
			wantBalanceExpr(t, f, e)
		}
	}
}
