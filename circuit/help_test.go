package circuit_test

import (
	"fmt"
	"reflect"
	"strings"
	"testing"

	"commodatum/api"
	"commodatum/formula"
)

// The next functions make gates.
func in(i int) api.Gate     { return api.Gate{Kind: api.FVar, N: i} }
func bit(n int) api.Gate    { return api.Gate{Kind: api.FConst, N: n} }
func not(a int) api.Gate    { return gate(api.FNot, a) }
func and(a, b int) api.Gate { return gate(api.FAnd, a, b) }
func or(a, b int) api.Gate  { return gate(api.FOr, a, b) }
func xor(a, b int) api.Gate { return gate(api.FXor, a, b) }
func gate(kind int, kids ...int) api.Gate {
	return api.Gate{Kind: kind, Kids: kids}
}

func circuitOf(inputs int, gates ...api.Gate) api.Circuit {
	return api.Circuit{Inputs: inputs, Gates: gates}
}

// The next functions make formulas.
func leaf(i int) api.Formula     { return api.Formula{Kind: api.FVar, N: i} }
func constant(n int) api.Formula { return api.Formula{Kind: api.FConst, N: n} }
func node(kind int, kids ...api.Formula) api.Formula {
	return api.Formula{Kind: kind, Kids: kids}
}

// parsed returns the formula with this text.
func parsed(t *testing.T, s string) api.Formula {
	t.Helper()
	f, e := formula.Parse(s)
	if e != api.OK {
		t.Fatalf("%q is not a formula: %v", s, e)
	}
	return f
}

// nested applies wrap that often.
func nested(wrap func(api.Formula) api.Formula, f api.Formula, times int) api.Formula {
	for range times {
		f = wrap(f)
	}
	return f
}

// full returns a formula with that many leaves, as flat as possible, whose kinds and leaves take turns.
func full(leaves int, kinds ...int) api.Formula {
	if leaves == 1 {
		return leaf(len(kinds) % api.MaxInputs)
	}
	turned := append(append([]int{}, kinds[1:]...), kinds[0])
	return node(kinds[0], full(leaves/2, turned...), full(leaves-leaves/2, turned...))
}

// source is a source of numbers that only seem to be random.
type source uint64

// below returns a number from 0 to n - 1.
func (s *source) below(n int) int {
	*s = *s*6364136223846793005 + 1442695040888963407
	return int(uint64(*s) >> 33 % uint64(n))
}

// style says what random circuits look like.
type style struct {
	inputs int
	kinds  []int // which take turns at random
	recent int   // the kids are among that many gates before
}

// styles are some styles of circuits: deep and flat ones, with many and with few equal gates.
func styles() []style {
	var list []style
	for _, kinds := range [][]int{
		{api.FVar, api.FConst, api.FNot, api.FAnd, api.FOr, api.FXor}, {api.FVar, api.FAnd, api.FOr, api.FNot}, {api.FXor, api.FXor, api.FVar},
		{api.FNot, api.FNot, api.FNot, api.FVar, api.FXor}, {api.FAnd, api.FXor, api.FOr}, {api.FNot},
	} {
		for _, recent := range []int{1, 3, 10, api.MaxNodes} {
			list = append(list, style{1, kinds, recent}, style{3, kinds, recent}, style{api.MaxTable, kinds, recent}, style{api.MaxInputs, kinds, recent})
		}
	}
	return list
}

// circuit returns a circuit with that many gates.
func (s *source) circuit(gates int, y style) api.Circuit {
	c := api.Circuit{Inputs: y.inputs}
	for i := range gates {
		kind := y.kinds[s.below(len(y.kinds))]
		if i == 0 {
			kind = api.FVar
		}
		kid := func() int { return i - 1 - s.below(min(i, y.recent)) }
		switch kind {
		case api.FVar:
			c.Gates = append(c.Gates, in(s.below(y.inputs)))
		case api.FConst:
			c.Gates = append(c.Gates, bit(s.below(2)))
		case api.FNot:
			c.Gates = append(c.Gates, not(kid()))
		default:
			c.Gates = append(c.Gates, gate(kind, kid(), kid()))
		}
	}
	return c
}

// someCircuits returns random circuits of all sizes up to this one.
func someCircuits(seed source, size int) []api.Circuit {
	var all []api.Circuit
	for _, gates := range []int{1, 2, 3, 5, 8, 13, 20, 40, 100, 300, 1000, 5000, api.MaxNodes} {
		for _, y := range styles() {
			if gates <= size {
				all = append(all, seed.circuit(gates, y))
			}
		}
	}
	return all
}

// allCircuits returns all circuits with that many inputs and gates.
func allCircuits(inputs, gates int) []api.Circuit {
	all := []api.Circuit{{Inputs: inputs}}
	for i := range gates {
		var longer []api.Circuit
		for _, c := range all {
			for _, g := range allGates(inputs, i) {
				longer = append(longer, circuitOf(inputs, append(c.Gates[:i:i], g)...))
			}
		}
		all = longer
	}
	return all
}

// allGates returns all gates that may follow that many earlier ones.
func allGates(inputs, earlier int) []api.Gate {
	all := []api.Gate{bit(0), bit(1)}
	for i := range inputs {
		all = append(all, in(i))
	}
	for a := range earlier {
		all = append(all, not(a))
		for b := range earlier {
			all = append(all, and(a, b), or(a, b), xor(a, b))
		}
	}
	return all
}

// smallCircuits returns all circuits of up to 4 gates with up to 2 inputs.
func smallCircuits() []api.Circuit {
	var all []api.Circuit
	for inputs := range 3 {
		for gates := 1; gates <= 4; gates++ {
			all = append(all, allCircuits(inputs, gates)...)
		}
	}
	return all
}

// formula returns a random formula with that many leaves. A great skew makes chains.
func (s *source) formula(leaves, inputs, skew int) api.Formula {
	f := leaf(s.below(inputs))
	if leaves > 1 {
		left := 1 + s.below(max(1, (leaves-1)/skew))
		f = node(api.FAnd+s.below(3), s.formula(left, inputs, skew), s.formula(leaves-left, inputs, skew))
	} else if s.below(8) == 0 {
		f = constant(s.below(2))
	}
	for s.below(3) == 0 {
		f = node(api.FNot, f)
	}
	return f
}

// someFormulas returns random formulas of all sizes.
func someFormulas(seed source) []api.Formula {
	var all []api.Formula
	for _, leaves := range []int{1, 2, 3, 4, 6, 10, 20, 50, 200, 1000, 5000} {
		for _, inputs := range []int{1, 2, 5, api.MaxTable, api.MaxInputs} {
			for _, skew := range []int{1, 4, 1000} {
				if f := seed.formula(leaves, inputs, skew); formula.Valid(f) { // it may be nested too deep
					all = append(all, f)
				}
			}
		}
	}
	return all
}

// smallFormulas returns all formulas of up to 5 nodes with 2 inputs.
func smallFormulas() []api.Formula {
	var all []api.Formula
	for nodes := 1; nodes <= 5; nodes++ {
		all = append(all, allFormulas(nodes)...)
	}
	return all
}

// allFormulas returns all formulas with just that many nodes and 2 inputs.
func allFormulas(nodes int) []api.Formula {
	if nodes == 1 {
		return []api.Formula{leaf(0), leaf(1), constant(0), constant(1)}
	}
	var all []api.Formula
	for _, f := range allFormulas(nodes - 1) {
		all = append(all, node(api.FNot, f))
	}
	for left := 1; left < nodes-1; left++ {
		for _, f := range allFormulas(left) {
			for _, g := range allFormulas(nodes - 1 - left) {
				all = append(all, node(api.FAnd, f, g), node(api.FOr, f, g), node(api.FXor, f, g))
			}
		}
	}
	return all
}

// chain returns a circuit that begins with these gates, continued by that many gates, which next makes of the index of
// the gate before.
func chain(inputs int, first []api.Gate, times int, next func(last int) api.Gate) api.Circuit {
	c := circuitOf(inputs, append([]api.Gate{}, first...)...)
	for range times {
		c.Gates = append(c.Gates, next(len(c.Gates)-1))
	}
	return c
}

// twice makes gates of a kind whose kids are both the gate before.
func twice(kind int) func(int) api.Gate {
	return func(last int) api.Gate { return gate(kind, last, last) }
}

// copyOf returns a copy in new memory, in which all empty lists are nil.
func copyOf(c api.Circuit) api.Circuit {
	var gates []api.Gate
	for _, g := range c.Gates {
		g.Kids = append([]int(nil), g.Kids...)
		gates = append(gates, g)
	}
	return api.Circuit{Inputs: c.Inputs, Gates: gates}
}

// copyOfFormula is copyOf for formulas.
func copyOfFormula(f api.Formula) api.Formula {
	var kids []api.Formula
	for _, kid := range f.Kids {
		kids = append(kids, copyOfFormula(kid))
	}
	f.Kids = kids
	return f
}

func equal(c, d api.Circuit) bool { return reflect.DeepEqual(copyOf(c), copyOf(d)) }

func equalFormula(f, g api.Formula) bool {
	return reflect.DeepEqual(copyOfFormula(f), copyOfFormula(g))
}

func isZero(c api.Circuit) bool { return equal(c, api.Circuit{}) }

func isZeroFormula(f api.Formula) bool { return equalFormula(f, api.Formula{}) }

// brief writes the inputs and the gates of a circuit, or only the first ones, as the whole of it helps nobody.
func brief(c api.Circuit) string {
	var gates []string
	for _, g := range c.Gates[:min(12, len(c.Gates))] {
		kind := fmt.Sprint("kind ", g.Kind)
		if g.Kind >= 0 && g.Kind < api.FKinds {
			kind = []string{"x", "const ", "not", "and", "or", "xor"}[g.Kind]
		}
		if g.N != 0 || g.Kind <= api.FConst {
			kind += fmt.Sprint(g.N)
		}
		if len(g.Kids) > 0 {
			kind += fmt.Sprint(g.Kids[:min(5, len(g.Kids))])
		}
		gates = append(gates, kind)
	}
	return fmt.Sprintf("%d inputs, %d gates: %s", c.Inputs, len(c.Gates), strings.Join(gates, ", "))
}

// briefFormula writes the beginning of the text of a formula.
func briefFormula(f api.Formula) string {
	text, e := formula.Text(f)
	if e != api.OK {
		return fmt.Sprintf("kind %d with %d kids", f.Kind, len(f.Kids))
	}
	if len(text) > 200 {
		return text[:200] + ".."
	}
	return text
}
