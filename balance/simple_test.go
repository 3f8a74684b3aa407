package balance_test

import (
	"math"
	"testing"

	"commodatum/api"
	"commodatum/balance"
)

func TestSimpleSmall(t *testing.T) {
	for _, f := range smallFormulas() {
		checkSimple(t, f)
	}
}

func TestSimpleSamples(t *testing.T) {
	for _, f := range someFormulas(4, 4000) {
		checkSimple(t, f)
	}
}

// The example of the chapter, and each kind with each constant.
func TestSimpleExamples(t *testing.T) {
	f := or(x(1), x(2))
	for _, s := range []struct{ f, simple api.Formula }{
		{or(x(0), bit(1)), bit(1)}, {x(9), x(9)}, {bit(0), bit(0)}, {bit(1), bit(1)}, {not(x(9)), not(x(9))},
		{and(f, bit(0)), bit(0)}, {and(bit(0), f), bit(0)}, {and(f, bit(1)), f}, {and(bit(1), f), f},
		{or(f, bit(0)), f}, {or(bit(0), f), f}, {or(f, bit(1)), bit(1)}, {or(bit(1), f), bit(1)},
		{xor(f, bit(0)), f}, {xor(bit(0), f), f}, {xor(f, bit(1)), not(f)}, {xor(bit(1), f), not(f)},
		{xor(bit(1), not(f)), f}, {not(xor(f, bit(1))), f}, {xor(xor(f, bit(1)), bit(1)), f},
		{not(not(f)), f}, {not(not(not(f))), not(f)}, {not(bit(0)), bit(1)}, {not(bit(1)), bit(0)}, {not(not(bit(1))), bit(1)},
		{xor(bit(1), bit(1)), bit(0)}, {xor(bit(0), bit(1)), bit(1)}, {and(bit(1), bit(1)), bit(1)}, {or(bit(0), bit(0)), bit(0)},
		{and(not(bit(0)), not(not(xor(f, not(bit(1)))))), f},
	} {
		checkSimple(t, s.f)
		if g, e := balance.Simple(s.f); e != api.OK || !equal(g, s.simple) {
			t.Errorf("Simple of %s = %s, %v; want %s", brief(s.f), brief(g), e, brief(s.simple))
		}
	}
}

// Simple and Fix never return ErrSize, up to the limits.
func TestSimpleAndFixGreat(t *testing.T) {
	great := []api.Formula{
		not(balanced(and, repeated(x(0), 10000))), not(balanced(xor, repeated(x(15), 10000))), not(balanced(or, repeated(bit(0), 10000))),
		balanced(xor, repeated(not(x(2)), 6667)), balanced(xor, repeated(not(bit(1)), 6667)), negated(balanced(xor, repeated(x(1), 5000)), 1),
		nested(not, x(0), 999), nested(not, bit(1), 999), balanced(and, repeated(nested(not, x(3), 900), 21)),
		nested(func(f api.Formula) api.Formula { return xor(bit(1), f) }, x(0), 999),
		nested(func(f api.Formula) api.Formula { return xor(not(f), bit(1)) }, x(0), 499),
		nested(func(f api.Formula) api.Formula { return xor(f, x(4)) }, bit(0), 999),
	}
	for _, kinds := range turns() {
		great = append(great, chainUpTo(api.MaxDepth, api.MaxDepth, kinds))
	}
	for _, f := range great {
		checkSimple(t, f)
		for _, input := range []int{0, 3, 15} {
			checkFix(t, f, input, input == 3)
		}
	}
}

func TestFixSmall(t *testing.T) {
	for _, f := range smallFormulas() {
		for input := range 3 { // input 2 does not occur
			checkShannon(t, f, input)
		}
	}
}

// checkShannon checks P6.3: f is "input and Fix(f, input, true), or not input and Fix(f, input, false)".
func checkShannon(t *testing.T, f api.Formula, input int) {
	t.Helper()
	yes, no := checkFix(t, f, input, true), checkFix(t, f, input, false)
	whole := or(and(x(input), yes), and(not(x(input)), no))
	if !haveSameFunction(f, whole) {
		t.Fatalf("Fix(%s, %d, ..) = %s and %s", brief(f), input, brief(yes), brief(no))
	}
}

func TestFixSamples(t *testing.T) {
	for i, f := range someFormulas(5, 300) {
		checkShannon(t, f, i%api.MaxInputs)
		checkShannon(t, f, 0)
		checkShannon(t, f, api.MaxInputs-1)
	}
}

// The inputs 0 and MaxInputs - 1, and one that does not occur.
func TestFixLeaves(t *testing.T) {
	for _, input := range []int{0, 7, api.MaxInputs - 1} {
		for i := range api.MaxInputs {
			checkShannon(t, x(i), input)
			checkShannon(t, not(x(i)), input)
			checkShannon(t, xor(x(i), x(15-i)), input)
		}
		checkShannon(t, bit(0), input)
		checkShannon(t, bit(1), input)
		checkShannon(t, or(bit(0), not(bit(1))), input)
	}
}

// One Fix after the other, until no input is left: the value of the formula.
func TestFixAll(t *testing.T) {
	random := source(6)
	for _, f := range someFormulas(7, 30) {
		g, point := f, 0
		for i := range api.MaxInputs {
			input := (5*i + 3) % api.MaxInputs // each of them once
			value := random.below(2) == 1
			if value {
				point |= 1 << input
			}
			g = checkFix(t, g, input, value)
		}
		if usedInputs(g) != [api.MaxInputs]bool{} {
			t.Fatalf("%s is left of %s", brief(g), brief(f))
		}
		value := functionOf(g, []int{0})[0]&1 == 1
		if valueAt(f, point) != value {
			t.Fatalf("%s is left of %s, at %b", brief(g), brief(f), point)
		}
	}
}

// valueAt returns the value of a formula at a point.
func valueAt(f api.Formula, point int) bool {
	switch f.Kind {
	case api.FVar:
		return point>>f.N&1 == 1
	case api.FConst:
		return f.N == 1
	case api.FNot:
		return !valueAt(f.Kids[0], point)
	}
	a, b := valueAt(f.Kids[0], point), valueAt(f.Kids[1], point)
	switch f.Kind {
	case api.FAnd:
		return a && b
	case api.FOr:
		return a || b
	}
	return a != b
}

func TestFixErrArg(t *testing.T) {
	for _, f := range append(smallFormulas()[:60], chain(100, api.FAnd, api.FXor)) {
		for _, input := range []int{-1, api.MaxInputs, 17, -16, 1 << 32, math.MinInt, math.MaxInt} {
			for _, value := range []bool{false, true} {
				if g, e := balance.Fix(f, input, value); e != api.ErrArg || !isZero(g) {
					t.Errorf("Fix(%s, %d, %v) = %s, %v", brief(f), input, value, brief(g), e)
				}
			}
		}
	}
}
