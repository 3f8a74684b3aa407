package circuit_test

import (
	"math"
	"testing"

	"commodatum/api"
	"commodatum/circuit"
	"commodatum/formula"
)

// P7.1: From has the value of the formula, and Formula of it at most its depth.
func checkThereAndBack(t *testing.T, f api.Formula, inputs int) {
	t.Helper()
	c := checkFrom(t, f, inputs)
	g, e := checkFormula(t, c)
	if e != api.OK || formula.Depth(g) > formula.Depth(f) {
		t.Fatalf("Formula of From(%s, %d) = %s, %v", briefFormula(f), inputs, briefFormula(g), e)
	}
	if inputs <= api.MaxTable {
		a, _ := formula.Table(f, inputs)
		b, _ := circuit.Table(c)
		d, _ := formula.Table(g, inputs)
		for i, v := range a {
			if v != b[i] || v != d[i] {
				t.Fatalf("%s for %d inputs, index %d: %v, and then %v and %v", briefFormula(f), inputs, i, v, b[i], d[i])
			}
		}
	}
}

func TestFromSmall(t *testing.T) {
	for _, f := range smallFormulas() {
		for inputs := formula.Inputs(f); inputs <= 3; inputs++ {
			checkThereAndBack(t, f, inputs)
		}
	}
}

func TestFromSome(t *testing.T) {
	for _, f := range someFormulas(6) {
		checkThereAndBack(t, f, formula.Inputs(f))
		checkThereAndBack(t, f, (formula.Inputs(f)+api.MaxInputs)/2)
		checkThereAndBack(t, f, api.MaxInputs)
	}
}

func TestFromInputs(t *testing.T) {
	for highest := -1; highest < api.MaxInputs; highest++ {
		f := parsed(t, "and(1, not(0))")
		if highest >= 0 {
			f = node(api.FOr, leaf(highest), leaf(0))
		}
		for _, inputs := range []int{-2, -1, 0, 1, 2, 3, 7, 8, 11, 12, 13, 15, 16, 17, 18, 1 << 32, 1<<32 + 16, math.MaxInt, math.MinInt} {
			if inputs > highest && inputs >= 0 && inputs <= api.MaxInputs {
				checkThereAndBack(t, f, inputs)
			} else if c, e := circuit.From(f, inputs); e != api.ErrArg || !isZero(c) {
				t.Errorf("From(%s, %d) = %s, %v", briefFormula(f), inputs, brief(c), e)
			}
		}
	}
}

func TestFromGreat(t *testing.T) {
	andLeft := func(f api.Formula) api.Formula { return node(api.FAnd, f, leaf(3)) }
	xorRight := func(f api.Formula) api.Formula { return node(api.FXor, leaf(2), f) }
	negated := func(f api.Formula) api.Formula { return node(api.FNot, f) }
	for _, f := range []api.Formula{
		node(api.FNot, full(api.MaxNodes/2, api.FAnd, api.FOr, api.FXor)), // MaxNodes nodes
		node(api.FNot, full(api.MaxNodes/2, api.FXor)),
		nested(andLeft, leaf(1), api.MaxDepth-1),
		nested(xorRight, leaf(1), api.MaxDepth-1),
		nested(negated, leaf(1), api.MaxDepth-1),
		nested(negated, constant(1), api.MaxDepth-1),
	} {
		checkThereAndBack(t, f, formula.Inputs(f))
		checkThereAndBack(t, f, api.MaxInputs)
	}
}

// Nodes that are equal have one gate.
func TestFromMerges(t *testing.T) {
	for _, example := range []struct {
		text  string
		gates int
	}{
		{"x2", 1}, {"0", 1}, {"not(1)", 2}, {"and(x0, not(x0))", 3}, {"xor(1, 1)", 2}, {"xor(0, 1)", 3}, {"or(x0, x1)", 3},
		{"xor(and(x0, x1), or(not(x0), and(x0, x1)))", 6}, {"or(and(x0, 0), and(x0, 0))", 4}, {"not(xor(x0, x0))", 3},
		{"and(or(x0, x1), xor(x0, x1))", 5}, {"and(x0, or(1, and(x0, or(1, and(x0, or(1, x0))))))", 8}, {"or(x1, 1)", 3},
	} {
		if c := checkFrom(t, parsed(t, example.text), 4); len(c.Gates) != example.gates {
			t.Errorf("From(%s) = %s", example.text, brief(c))
		}
	}
	for levels := range 14 {
		f := nested(func(f api.Formula) api.Formula { return node(api.FXor, f, f) }, leaf(9), levels) // the memory is shared, too
		if c := checkFrom(t, f, 10); len(c.Gates) != levels+1 {
			t.Errorf("%d levels: %s", levels, brief(c))
		}
	}
	for _, f := range append(smallFormulas(), someFormulas(7)...) {
		wantSlim(t, checkFrom(t, f, api.MaxInputs))
	}
}
