package circuit_test

import (
	"fmt"
	"testing"

	"commodatum/api"
	"commodatum/circuit"
	"commodatum/formula"
)

// wantTooGreat fails unless Formula returns ErrSize.
func wantTooGreat(t *testing.T, what string, c api.Circuit) {
	t.Helper()
	if f, e := checkFormula(t, c); e != api.ErrSize {
		t.Errorf("%s: Formula = %s, %v", what, briefFormula(f), e)
	}
}

// wantFormula fails unless Formula returns OK.
func wantFormula(t *testing.T, what string, c api.Circuit) api.Formula {
	t.Helper()
	f, e := checkFormula(t, c)
	if e != api.OK {
		t.Errorf("%s: Formula returns %v", what, e)
	}
	return f
}

// P7.1: Formula has the value of the circuit, and at most its depth.
func TestFormulaSmall(t *testing.T) {
	for _, c := range smallCircuits() {
		wantFormula(t, "a small circuit", c)
	}
}

func TestFormulaSome(t *testing.T) {
	results := map[api.Errno]int{}
	for _, c := range someCircuits(8, api.MaxNodes) {
		_, e := checkFormula(t, c)
		results[e]++
		nodes, nesting := unfoldedNumbers(c, false)
		if isGood := nodes <= api.MaxNodes && nesting <= api.MaxDepth; isGood != (e == api.OK) {
			t.Fatalf("Formula of %s, %v nodes nested %v deep: %v", brief(c), nodes, nesting, e)
		}
	}
	if results[api.OK] < 100 || results[api.ErrSize] < 20 {
		t.Error(results)
	}
}

// Example 2, and the same with FAnd and FOr.
func TestFormulaDoubled(t *testing.T) {
	for _, kind := range []int{api.FXor, api.FAnd, api.FOr} {
		for _, n := range []int{0, 1, 2, 3, 7, 8, 9, 12, 13, 14, 15, 16, 30, 31, 32, 61, 62, 63, 64, 65, 100, 1023, 1024, 1100, api.MaxNodes - 1} {
			c := chain(1, []api.Gate{in(0)}, n, twice(kind))
			what := fmt.Sprint(n, " gates of kind ", kind)
			if n > 13 {
				wantTooGreat(t, what, c)
			} else if f := wantFormula(t, what, c); formula.Size(f) != 1<<n || nodesOf(f) != 2<<n-1 {
				t.Errorf("%s: size %d", what, formula.Size(f))
			}
		}
	}
}

// withNots returns a circuit of alternating gates of two kids, which are both the gate before, and chains of FNot.
func withNots(kinds []int, nots int) api.Circuit {
	c := circuitOf(1, in(0))
	for i := 0; ; i++ {
		c = chain(1, c.Gates, nots, not)
		if i == len(kinds) {
			return c
		}
		c = chain(1, c.Gates, 1, twice(kinds[i]))
	}
}

// Circuits of depth up to 8 have formulas, whatever they consist of.
func TestFormulaDepth8(t *testing.T) {
	and, or, xor := api.FAnd, api.FOr, api.FXor
	for _, kinds := range [][]int{
		{}, {and}, {xor}, {xor, xor, xor, xor}, {and, and, and, and, and, and, and, and}, {or, or, or, or, or, or, or, or}, {xor, and, xor, or, xor}, {and, or, xor, xor, and, or},
	} {
		for _, nots := range []int{0, 1, 2, 3, 100, 999, 1000, 1001, 2000, 2001} {
			c := withNots(kinds, nots)
			what := fmt.Sprint(kinds, " with FNot, times ", nots)
			if depthOf(c) > 8 || len(c.Gates) > api.MaxNodes {
				t.Fatal(what)
			}
			wantFormula(t, what, c)
		}
	}
	random := source(9)
	for i := range 300 {
		wantFormula(t, "a random circuit", random.ofDepth(8, 100+i*60))
	}
}

// ofDepth returns a circuit of a great number of gates whose depth is just this one.
func (s *source) ofDepth(depth, gates int) api.Circuit {
	c := circuitOf(4, in(0), in(1), in(2), in(3), bit(1))
	last := []int{4} // the last gate of each depth
	for len(last) <= depth {
		d := len(last)
		for range s.below(gates / (depth + 1)) {
			c.Gates = append(c.Gates, not(last[max(0, d-1-s.below(20)/19)])) // now and then of a gate that is less deep
			last[d-1] = len(c.Gates) - 1
		}
		g := gate([]int{api.FAnd, api.FOr}[s.below(2)], last[d-1], last[s.below(d)])
		if d > 1 && s.below(3) == 0 {
			g = xor(last[s.below(d-1)], last[d-2])
		}
		last = append(last, len(c.Gates))
		c.Gates = append(c.Gates, g)
	}
	return c
}

func TestFormulaOfNots(t *testing.T) {
	for _, n := range []int{0, 1, 2, 3, 4, 5, 998, 999, 1000, 1001, api.MaxNodes - 2, api.MaxNodes - 1} {
		f := wantFormula(t, "a chain of FNot", chain(7, []api.Gate{in(6)}, n, not))
		if nodes := nodesOf(f); nodes != 1+n%2 {
			t.Errorf("%d FNot: %s", n, briefFormula(f))
		}
	}
}

// withLeaves returns a circuit whose formula has just that many leaves if it results gate by gate.
func withLeaves(leaves int) api.Circuit {
	c := circuitOf(1, in(0))
	full, rest := 0, -1 // the gates with the next power of 2 and with the last digits of the number
	for ; ; leaves /= 2 {
		if leaves%2 == 1 && rest >= 0 {
			c.Gates = append(c.Gates, and(full, rest))
		}
		if leaves%2 == 1 {
			rest = len(c.Gates) - 1
		}
		if leaves == 1 {
			return c
		}
		c.Gates = append(c.Gates, or(full, full))
		full = len(c.Gates) - 1
	}
}

// The formula that results gate by gate has MaxNodes nodes or a few less or more.
func TestFormulaNodes(t *testing.T) {
	for nodes := api.MaxNodes - 11; nodes < api.MaxNodes+12; nodes += 2 {
		c := withLeaves((nodes + 1) / 2)
		negated := circuitOf(c.Inputs, append(c.Gates, not(len(c.Gates)-1))...)
		for extra, c := range []api.Circuit{c, negated} {
			if got, _ := unfoldedNumbers(c, true); int(got) != nodes+extra {
				t.Fatalf("%v nodes, not %d, of %s", got, nodes+extra, brief(c))
			}
			if nodes+extra > api.MaxNodes {
				wantTooGreat(t, "too many nodes", c)
			} else if f := wantFormula(t, "not too many nodes", c); nodesOf(f) != nodes+extra {
				t.Errorf("%d nodes, not %d", nodesOf(f), nodes+extra)
			}
		}
	}
}

// The formula that results gate by gate is nested MaxDepth deep or a little less or more.
func TestFormulaNesting(t *testing.T) {
	first := []api.Gate{in(0), in(1)}
	for kids, next := range []func(last int) api.Gate{
		func(last int) api.Gate { return and(last, 0) },
		func(last int) api.Gate { return or(0, last) },
		func(last int) api.Gate { return xor(last, 0) },
		func(last int) api.Gate { return []api.Gate{not(last), and(last, 0), xor(0, last)}[last%3] },
	} {
		for nesting := api.MaxDepth - 3; nesting < api.MaxDepth+4; nesting++ {
			c := chain(2, first, nesting-1, next)
			if _, got := unfoldedNumbers(c, true); int(got) != nesting {
				t.Fatalf("nested %v, not %d", got, nesting)
			}
			what := fmt.Sprint("example ", kids, " nested ", nesting)
			if nesting > api.MaxDepth {
				wantTooGreat(t, what, c)
			} else {
				wantFormula(t, what, c)
			}
		}
	}
}

// Gates on which the last one does not depend do not matter.
func TestFormulaOfUnused(t *testing.T) {
	great := chain(3, []api.Gate{in(0), in(1), in(2)}, 5000, twice(api.FXor))
	for i, last := range []api.Gate{in(1), bit(1), not(2), and(0, 2), xor(3, 4), or(4, 4)} {
		c := circuitOf(3, append(great.Gates, last)...)
		wantFormula(t, fmt.Sprint("example ", i), c)
	}
	if f := wantFormula(t, "x1", circuitOf(3, append(great.Gates, in(1))...)); !equalFormula(f, leaf(1)) {
		t.Error(briefFormula(f))
	}
}

// The formula is that of the gates, but for double FNot.
func TestFormulaOfFrom(t *testing.T) {
	for _, f := range append(smallFormulas(), someFormulas(10)...) {
		c, _ := circuit.From(f, api.MaxInputs)
		if g := wantFormula(t, "From", c); !equalFormula(g, withoutDoubleNot(f)) {
			t.Fatalf("Formula of From(%s) = %s", briefFormula(f), briefFormula(g))
		}
	}
}
