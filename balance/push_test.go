package balance_test

import (
	"testing"

	"commodatum/api"
	"commodatum/balance"
)

func TestPushSmall(t *testing.T) {
	for _, f := range smallFormulas() {
		checkPush(t, f)
	}
}

func TestPushSamples(t *testing.T) {
	for _, f := range someFormulas(1, 4000) {
		checkPush(t, f)
	}
}

// The example of the chapter, and others for which there is little choice.
func TestPushExamples(t *testing.T) {
	for text, f := range map[string]api.Formula{
		"x3":                   x(3),
		"not(x3)":              not(x(3)),
		"x4":                   not(not(x(4))),
		"0":                    not(bit(1)),
		"1":                    or(bit(1), xor(x(0), x(1))),
		"x2":                   and(x(2), not(not(bit(1)))),
		"not(x5)":              xor(bit(1), x(5)),
		"or(not(x0), not(x1))": not(and(x(0), x(1))),
		"and(not(x0), x1)":     not(or(x(0), not(x(1)))),
	} {
		checkPush(t, f)
		if g, _ := balance.Push(f); writeFormula(g) != text {
			t.Errorf("Push of %s = %s; want %s", brief(f), brief(g), text)
		}
	}
	checkPush(t, not(xor(x(0), x(1))))
	g, _ := balance.Push(not(xor(x(0), x(1))))
	if n := numbersOf(g); n.size != 4 || n.depth != 2 {
		t.Errorf("Push of not(xor(x0, x1)) = %s", brief(g))
	}
}

// A formula whose function is constant may stay as it is, but for its form.
func TestPushConstantFunctions(t *testing.T) {
	for _, f := range []api.Formula{
		bit(0), bit(1), and(x(0), not(x(0))), or(x(1), not(x(1))), xor(x(2), x(2)), not(xor(not(x(3)), x(3))), xor(xor(x(0), x(1)), xor(x(1), x(0))),
		and(bit(0), x(0)), xor(bit(0), bit(1)), not(not(bit(0))), xor(xor(bit(1), x(0)), x(0)),
	} {
		checkPush(t, f)
	}
}

// wantPush fails unless Push returns OK.
func wantPush(t *testing.T, f api.Formula) {
	t.Helper()
	if e := checkPush(t, f); e != api.OK {
		t.Errorf("Push of %s with %v: error %v", brief(f), numbersOf(f), e)
	}
}

// ErrSize is not returned for a size of 12, even if all nodes are FXor, and however many negations there are.
func TestPushTwelve(t *testing.T) {
	random := source(2)
	for _, kinds := range turns() {
		for _, negations := range []int{0, 1, 2, 20} {
			f := chain(12, kinds...)
			wantPush(t, nested(not, f, negations))
			wantPush(t, negated(f, negations))
		}
	}
	for _, leaves := range [][]api.Formula{repeated(x(1), 12), repeated(not(x(15)), 12), repeated(nested(not, x(7), 900), 12)} {
		wantPush(t, balanced(xor, leaves))
		wantPush(t, not(balanced(xor, leaves)))
	}
	for range 300 {
		wantPush(t, random.formula(12, style{16, []int{api.FXor}, 60, 0, 1 + random.below(12)}))
		wantPush(t, random.formula(12, style{5, []int{api.FXor, api.FAnd, api.FOr}, 30, 5, 1 + random.below(12)}))
	}
}

// negated returns f with that many FNot above each node.
func negated(f api.Formula, negations int) api.Formula {
	kids := make([]api.Formula, len(f.Kids))
	for i, kid := range f.Kids {
		kids[i] = negated(kid, negations)
	}
	return nested(not, api.Formula{Kind: f.Kind, N: f.N, Kids: kids}, negations)
}

// Without FXor, ErrSize is not returned for a size of 6000 and a nesting of 400.
func TestPushSixThousand(t *testing.T) {
	random := source(3)
	for _, kinds := range turns()[:9] {
		f := chain(150, kinds...)
		f = nested(not, f, 399-numbersOf(f).nesting)
		// The other leaves are beside the chain. Each of them becomes negated.
		f = and(f, not(balanced(or, repeated(x(random.below(16)), 6000-numbersOf(f).size))))
		if n := numbersOf(f); n.size != 6000 || n.nesting != 400 || n.nodes > api.MaxNodes {
			t.Fatalf("the formula has %v", n)
		}
		wantPush(t, f)
	}
	for range 5 {
		f := random.formula(6000, style{16, []int{api.FAnd, api.FOr}, 30, 0, 1})
		wantPush(t, f)
		wantPush(t, balanced(and, repeated(not(x(3)), 6000)))
		wantPush(t, not(balanced(or, repeated(x(3), 6000))))
	}
}

// Beyond that, there may be an error.
func TestPushGreat(t *testing.T) {
	wantPush(t, balanced(and, repeated(x(3), 10000)))
	for _, f := range []api.Formula{
		not(balanced(and, repeated(x(3), 10000))), not(balanced(and, repeated(x(3), 6667))), not(balanced(and, repeated(x(3), 6668))),
		balanced(xor, repeated(x(3), 13)), balanced(xor, repeated(x(3), 64)), balanced(xor, repeated(x(3), 10000)),
		nested(not, x(1), 999), nested(not, balanced(xor, repeated(x(2), 100)), 900),
	} {
		checkPush(t, f)
	}
	for _, kinds := range turns() {
		for _, size := range []int{13, 14, 15, 40, 334, 500, 501, 1000} {
			checkPush(t, chainUpTo(size, api.MaxDepth, kinds))
		}
	}
}

// chainUpTo returns the greatest chain up to that size which is nested no deeper than that.
func chainUpTo(size, nesting int, kinds []int) api.Formula {
	f := chain(size, kinds...)
	for numbersOf(f).nesting > nesting {
		size--
		f = chain(size, kinds...)
	}
	return f
}

// Chains as deep as MaxDepth have room for negations at the leaves, but not always for what an FXor becomes.
func TestPushDeep(t *testing.T) {
	for _, kinds := range turns()[:9] {
		f := chainUpTo(api.MaxDepth, api.MaxDepth, kinds)
		if n := numbersOf(f); n.nesting < api.MaxDepth-6 {
			t.Fatalf("the formula has %v", n)
		}
		wantPush(t, f)
	}
	wantPush(t, nested(not, x(0), api.MaxDepth-1))
	wantPush(t, nested(not, and(x(0), x(1)), api.MaxDepth-2))
	for levels := 990; levels <= 998; levels++ {
		f := nested(func(f api.Formula) api.Formula { return or(x(1), f) }, xor(x(2), x(3)), levels)
		// xor(a, b) becomes a formula that is nested 4 deep.
		if e := checkPush(t, f); (e == api.OK) != (levels <= 996) {
			t.Errorf("Push of an FXor in %d FOr: %v", levels, e)
		}
	}
}
