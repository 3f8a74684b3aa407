package balance_test

import (
	"testing"

	"commodatum/api"
	"commodatum/balance"
)

func TestBalanceSmall(t *testing.T) {
	for _, f := range smallFormulas() {
		checkBalance(t, f)
	}
}

func TestBalanceSamples(t *testing.T) {
	for _, f := range someFormulas(8, 4000) {
		checkBalance(t, f)
	}
}

// wantBalance fails unless Balance returns OK.
func wantBalance(t *testing.T, f api.Formula) {
	t.Helper()
	if e := checkBalance(t, f); e != api.OK {
		t.Errorf("Balance of %s with %v: error %v", brief(f), numbersOf(f), e)
	}
}

// The example of the chapter.
func TestBalanceExample(t *testing.T) {
	f := x(15)
	for i := 14; i >= 0; i-- {
		f = and(x(i), f)
	}
	if n := numbersOf(f); n.depth != 15 || depthLimit(n.size) != 18 {
		t.Fatalf("the chain has %v", n)
	}
	wantBalance(t, f)
}

// Formulas without any choice: of one node, and with a constant function.
func TestBalanceLeaves(t *testing.T) {
	for _, f := range []api.Formula{
		x(0), x(15), bit(0), bit(1), not(x(3)), not(not(x(3))), not(bit(0)), nested(not, x(8), 999), nested(not, bit(1), 998),
		and(bit(0), x(0)), xor(x(0), x(0)), or(x(0), not(x(0))), xor(bit(1), x(0)),
	} {
		wantBalance(t, f)
	}
}

// Chains of all sizes up to 70, among them the powers of 2 and the sizes that are 1 more.
func TestBalanceChains(t *testing.T) {
	for _, kinds := range turns() {
		for size := 1; size <= 70; size++ {
			f := chain(size, kinds...)
			checkBalance(t, f)
			checkBalance(t, not(f))
			if size <= 60 {
				wantBalance(t, negated(f, 1))
			}
		}
	}
}

// Constants in a formula count for its size, but disappear; whole branches may disappear with them.
func TestBalanceConstants(t *testing.T) {
	random := source(10)
	for size := 2; size <= 60; size++ {
		for range 10 {
			wantBalance(t, random.formula(size, style{4, []int{api.FAnd, api.FOr, api.FXor}, 20, 60, 100}))
			wantBalance(t, random.formula(size, style{4, []int{api.FXor}, 20, 60, 100}))
		}
	}
	for _, constant := range []int{0, 1} {
		for kind := api.FAnd; kind <= api.FXor; kind++ {
			f := nested(func(f api.Formula) api.Formula { return node(kind, f, bit(constant)) }, x(0), 59)
			wantBalance(t, f)
			wantBalance(t, xor(x(1), f.Kids[0]))
		}
	}
}

// All sorts of deep formulas of 60 leaves: ErrSize is never returned.
func TestBalanceSixty(t *testing.T) {
	random := source(11)
	for _, y := range styles() {
		for range 30 {
			wantBalance(t, random.formula(60, y))
			y.skew = 1 + random.below(60)
			wantBalance(t, random.formula(60, y))
		}
	}
	// Two thirds of the leaves are in one kid, again and again; the chains beside are as deep as they may be.
	for _, kinds := range turns() {
		for _, third := range []int{2, 3, 4, 5, 8} {
			wantBalance(t, combs(60, third, kinds))
		}
	}
}

// combs returns a formula of that size: a chain of that part of the leaves, joined with another such formula.
func combs(size, part int, kinds []int) api.Formula {
	if size < 2*part {
		return chain(size, kinds...)
	}
	first := size / part
	kind := max(kinds[len(kinds)-1], api.FAnd)
	return node(kind, chain(first, kinds...), not(combs(size-first, part, kinds)))
}

// Far beyond, there may be an error, but nothing that is wrong, too deep or too great; and it does not take long.
func TestBalanceGreat(t *testing.T) {
	random := source(12)
	leaves := repeated(x(0), 10000)
	for i := range leaves {
		leaves[i] = x(random.below(api.MaxInputs))
	}
	all := []api.Formula{
		balanced(and, leaves), not(balanced(or, leaves)), balanced(xor, leaves), not(balanced(xor, leaves[:4096])),
		nested(func(f api.Formula) api.Formula { return xor(and(f, x(1)), or(x(2), x(3))) }, x(0), 499),
	}
	for _, width := range []int{2, 3, 7, 9} {
		for _, kinds := range turns() {
			all = append(all, thickChain(max(2, 996/(width+2)), kinds, balanced(xor, leaves[:width])))
		}
	}
	for _, kinds := range turns() {
		all = append(all, combs(997, 3, kinds), combs(1500, 9, kinds))
		for _, size := range []int{100, 127, 128, 129, 256, 257, 500, 1000} {
			all = append(all, chainUpTo(size, api.MaxDepth, kinds))
		}
	}
	for _, f := range all {
		checkBalance(t, f)
	}
	for _, size := range []int{5000, 6667, 10000} {
		for _, skew := range []int{1, 5, 30, 100} {
			checkBalance(t, random.formula(size, style{16, []int{api.FAnd, api.FOr, api.FXor}, 0, 1, skew}))
		}
	}
}

// thickChain returns a chain with this formula in the place of most of its leaves.
func thickChain(size int, kinds []int, leaf api.Formula) api.Formula {
	f := x(0)
	for i := range size - 1 {
		kind := kinds[i%len(kinds)]
		if kind == api.FNot {
			f, kind = not(f), api.FOr
		}
		f = node(kind, leaf, f)
	}
	return f
}

// A formula that is not deep needs no room for more nodes.
func TestBalanceFull(t *testing.T) {
	for _, f := range []api.Formula{
		not(balanced(or, repeated(x(1), 10000))), not(balanced(xor, repeated(x(1), 10000))), balanced(and, repeated(not(x(1)), 6666)),
		negated(balanced(or, repeated(x(1), 5000)), 1),
	} {
		if n := numbersOf(f); n.nodes < api.MaxNodes-5 {
			t.Fatalf("the formula has %v", n)
		}
		wantBalance(t, f)
	}
}

// Chains far beyond 60 still have room.
func TestBalanceLongChains(t *testing.T) {
	for _, kinds := range turns() {
		wantBalance(t, chainUpTo(api.MaxDepth, api.MaxDepth, kinds))
	}
}

// P7: the functions do not depend on the order of Push, Balance and Simple.
func TestTogether(t *testing.T) {
	for _, f := range someFormulas(13, 60) {
		for _, first := range []func(api.Formula) (api.Formula, api.Errno){balance.Push, balance.Balance, balance.Simple} {
			g, e := first(f)
			if e != api.OK {
				continue
			}
			for _, second := range []func(api.Formula) (api.Formula, api.Errno){balance.Push, balance.Balance, balance.Simple} {
				if h, e := second(g); e == api.OK {
					wantSame(t, "two functions", f, h)
				}
			}
		}
	}
}
