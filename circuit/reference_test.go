package circuit_test

import (
	"math"
	"slices"
	"testing"

	"commodatum/api"
	"commodatum/formula"
)

// valueOf is the value of a circuit, by the definition of its gates.
func valueOf(c api.Circuit, x []bool) bool {
	var values []bool
	for _, g := range c.Gates {
		switch g.Kind {
		case api.FVar:
			values = append(values, x[g.N])
		case api.FConst:
			values = append(values, g.N == 1)
		case api.FNot:
			values = append(values, !values[g.Kids[0]])
		case api.FAnd:
			values = append(values, values[g.Kids[0]] && values[g.Kids[1]])
		case api.FOr:
			values = append(values, values[g.Kids[0]] || values[g.Kids[1]])
		case api.FXor:
			values = append(values, values[g.Kids[0]] != values[g.Kids[1]])
		}
	}
	return values[len(values)-1]
}

// depthOf is the depth of a circuit, by its definition.
func depthOf(c api.Circuit) int {
	var depths []int
	for _, g := range c.Gates {
		switch g.Kind {
		case api.FVar, api.FConst:
			depths = append(depths, 0)
		case api.FNot:
			depths = append(depths, depths[g.Kids[0]])
		case api.FAnd, api.FOr:
			depths = append(depths, max(depths[g.Kids[0]], depths[g.Kids[1]])+1)
		case api.FXor:
			depths = append(depths, max(depths[g.Kids[0]], depths[g.Kids[1]])+2)
		}
	}
	return depths[len(depths)-1]
}

// unfoldedNumbers returns how many nodes the formula has that results from a circuit gate by gate, and how deep it is
// nested. Without double FNot, each FNot of an FNot counts as the kid of that.
func unfoldedNumbers(c api.Circuit, doubleNot bool) (nodes, nesting float64) {
	type numbers struct {
		nodes, nesting float64
		isNot          bool
		kid            int
	}
	var all []numbers
	for _, g := range c.Gates {
		n := numbers{nodes: 1, nesting: 1}
		for _, kid := range g.Kids {
			n.nodes += all[kid].nodes // it may become infinite
			n.nesting = math.Max(n.nesting, all[kid].nesting+1)
		}
		if g.Kind == api.FNot {
			n.isNot, n.kid = true, g.Kids[0]
			if below := all[n.kid]; below.isNot && !doubleNot {
				n = all[below.kid]
			}
		}
		all = append(all, n)
	}
	last := all[len(all)-1]
	return last.nodes, last.nesting
}

// unfolds reports whether the formula is valid that results from a circuit gate by gate.
func unfolds(c api.Circuit) bool {
	nodes, nesting := unfoldedNumbers(c, true)
	return nodes <= api.MaxNodes && nesting <= api.MaxDepth
}

// nodesOf counts the nodes of a formula.
func nodesOf(f api.Formula) int {
	count := 1
	for _, kid := range f.Kids {
		count += nodesOf(kid)
	}
	return count
}

// withoutDoubleNot returns the formula without any FNot of an FNot.
func withoutDoubleNot(f api.Formula) api.Formula {
	var kids []api.Formula
	for _, kid := range f.Kids {
		kids = append(kids, withoutDoubleNot(kid))
	}
	if f.Kind == api.FNot && kids[0].Kind == api.FNot {
		return kids[0].Kids[0]
	}
	return api.Formula{Kind: f.Kind, N: f.N, Kids: kids}
}

// pointAt returns the values of inputs that belong to an index of a table.
func pointAt(index, inputs int) []bool {
	x := make([]bool, inputs)
	for i := range x {
		x[i] = index>>i&1 == 1
	}
	return x
}

// points returns values of that many inputs: all that there are, or, if something great is to be evaluated there, some
// of them.
func points(inputs, size int) [][]bool {
	all := 1 << inputs
	var list [][]bool
	for i := range min(all, max(20, 10000/size)) {
		list = append(list, pointAt(i*40503%all, inputs)) // all of them differ, as 40503 is odd
	}
	return list
}

// wantValue fails unless the circuit d is valid, and has the same inputs and the same value as c.
func wantValue(t *testing.T, what string, c, d api.Circuit) {
	t.Helper()
	wantInputs(t, what, c.Inputs, d)
	for _, x := range points(c.Inputs, len(c.Gates)) {
		if valueOf(c, x) != valueOf(d, x) {
			t.Fatalf("%s of %s = %s: another value at %v", what, brief(c), brief(d), x)
		}
	}
}

// wantInputs fails unless a circuit is valid, and has that many inputs.
func wantInputs(t *testing.T, what string, inputs int, c api.Circuit) {
	t.Helper()
	if !isValid(c) || c.Inputs != inputs {
		t.Fatalf("%s = %s", what, brief(c))
	}
}

// wantSameValue fails unless a formula has only inputs of a circuit, and its value.
func wantSameValue(t *testing.T, what string, f api.Formula, c api.Circuit) {
	t.Helper()
	if inputs := formula.Inputs(f); inputs < 0 || inputs > c.Inputs {
		t.Fatalf("%s: %s has %d inputs, those of %s", what, briefFormula(f), inputs, brief(c))
	}
	for _, x := range points(c.Inputs, max(nodesOf(f), len(c.Gates))) {
		if v, e := formula.Eval(f, x); e != api.OK || v != valueOf(c, x) {
			t.Fatalf("%s: %s and %s have different values at %v", what, briefFormula(f), brief(c), x)
		}
	}
}

// isValid says whether a circuit is valid, by the definition.
func isValid(c api.Circuit) bool {
	isGood := c.Inputs >= 0 && c.Inputs <= 16 && len(c.Gates) >= 1 && len(c.Gates) <= 20000
	for i, g := range c.Gates {
		switch len(g.Kids) {
		case 0:
			isGood = isGood && (g.Kind == api.FVar && g.N >= 0 && g.N < c.Inputs || g.Kind == api.FConst && (g.N == 0 || g.N == 1))
		case 1:
			isGood = isGood && g.Kind == api.FNot && g.N == 0
		case 2:
			isGood = isGood && (g.Kind == api.FAnd || g.Kind == api.FOr || g.Kind == api.FXor) && g.N == 0
		default:
			isGood = false
		}
		isGood = isGood && !slices.ContainsFunc(g.Kids, func(kid int) bool { return kid < 0 || kid >= i })
	}
	return isGood
}
