package circuit_test

import (
	"testing"

	"commodatum/api"
)

// wantSlimmed fails unless Slim of c is this circuit.
func wantSlimmed(t *testing.T, c, want api.Circuit) {
	t.Helper()
	if d := checkSlim(t, c); !equal(d, want) {
		t.Errorf("Slim of %s = %s; want %s", brief(c), brief(d), brief(want))
	}
}

// P7.2: Slim has the properties that its section states. What is slim already stays as it is.
func TestSlimSmall(t *testing.T) {
	for _, c := range smallCircuits() {
		d := checkSlim(t, c)
		wantSlimmed(t, d, d)
	}
}

func TestSlimSome(t *testing.T) {
	for _, c := range someCircuits(11, api.MaxNodes) {
		d := checkSlim(t, c)
		wantSlimmed(t, d, d)
	}
}

func TestSlimExamples(t *testing.T) {
	for _, example := range []struct{ c, want api.Circuit }{
		{circuitOf(0, bit(1)), circuitOf(0, bit(1))},
		{circuitOf(5, in(3)), circuitOf(5, in(3))},
		// slim already
		{circuitOf(1, in(0), not(0), and(0, 1)), circuitOf(1, in(0), not(0), and(0, 1))},
		{circuitOf(1, in(0), xor(0, 0), or(1, 1)), circuitOf(1, in(0), xor(0, 0), or(1, 1))},
		{circuitOf(2, in(1), in(0), xor(0, 1)), circuitOf(2, in(1), in(0), xor(0, 1))},
		// a gate that no later one uses, at the beginning, in the middle and just before the last one
		{circuitOf(3, in(2), in(0), in(1), and(1, 2)), circuitOf(3, in(0), in(1), and(0, 1))},
		{circuitOf(3, in(0), not(0), in(1), or(0, 2)), circuitOf(3, in(0), in(1), or(0, 1))},
		{circuitOf(3, in(0), in(1), not(1), xor(2, 0), or(0, 1)), circuitOf(3, in(0), in(1), or(0, 1))},
		// the last gate depends on no other
		{circuitOf(2, in(0), in(1), and(0, 1), not(2), in(1)), circuitOf(2, in(1))},
		{circuitOf(2, in(0), not(0), bit(0)), circuitOf(2, bit(0))},
		// gates that are equal
		{circuitOf(2, in(0), in(0), in(1), and(0, 2), and(1, 2), or(3, 4)), circuitOf(2, in(0), in(1), and(0, 1), or(2, 2))},
		{circuitOf(1, bit(1), bit(1), xor(0, 1)), circuitOf(1, bit(1), xor(0, 0))},
		// gates that become equal once their kids are
		{
			circuitOf(1, in(0), in(0), not(0), not(1), and(0, 2), and(1, 3), xor(4, 5)),
			circuitOf(1, in(0), not(0), and(0, 1), xor(2, 2)),
		},
		// the last gate is equal to an earlier one, on which others depend
		{circuitOf(2, in(0), in(1), and(0, 1), not(2), or(2, 3), and(0, 1)), circuitOf(2, in(0), in(1), and(0, 1))},
		{circuitOf(2, in(0), in(1), in(0)), circuitOf(2, in(0))},
		// the last gate becomes equal to an earlier one once its kids are
		{circuitOf(1, in(0), not(0), in(0), or(0, 2), not(2)), circuitOf(1, in(0), not(0))},
		// equal gates of which only the later one is used
		{circuitOf(1, in(0), in(0), not(1)), circuitOf(1, in(0), not(0))},
		// gates that differ in their kind, number or kids only
		{
			circuitOf(2, in(0), in(1), bit(0), bit(1), and(0, 1), or(0, 1), xor(0, 1), and(2, 3), or(4, 5), or(6, 7), or(8, 9)),
			circuitOf(2, in(0), in(1), bit(0), bit(1), and(0, 1), or(0, 1), xor(0, 1), and(2, 3), or(4, 5), or(6, 7), or(8, 9)),
		},
		{circuitOf(1, in(0), not(0), and(0, 0), and(1, 1), xor(2, 3)), circuitOf(1, in(0), not(0), and(0, 0), and(1, 1), xor(2, 3))},
	} {
		wantSlimmed(t, example.c, example.want)
	}
}

func TestSlimGreat(t *testing.T) {
	leaves := circuitOf(2, make([]api.Gate, api.MaxNodes)...)
	wantSlimmed(t, leaves, circuitOf(2, in(0)))
	nots := chain(1, []api.Gate{in(0)}, api.MaxNodes-1, not)
	wantSlimmed(t, nots, nots)
	doubled := chain(1, []api.Gate{in(0)}, api.MaxNodes-1, twice(api.FXor))
	wantSlimmed(t, doubled, doubled)
	unused := chain(1, []api.Gate{in(0)}, api.MaxNodes-1, func(last int) api.Gate { return not(0) })
	wantSlimmed(t, unused, circuitOf(1, in(0), not(0)))
	// Two chains of equal gates side by side become one.
	sides := chain(1, []api.Gate{in(0), in(0)}, api.MaxNodes-3, func(last int) api.Gate { return not(last - 1) })
	sides = chain(1, sides.Gates, 1, func(last int) api.Gate { return and(last-1, last) })
	want := chain(1, []api.Gate{in(0)}, api.MaxNodes/2-1, not)
	want.Gates = append(want.Gates, and(len(want.Gates)-2, len(want.Gates)-1))
	wantSlimmed(t, sides, want)
}

// Slim of a circuit that is made of a formula is that circuit, and Slim of copies of its gates, too.
func TestSlimOfFrom(t *testing.T) {
	for _, f := range someFormulas(12) {
		c := checkFrom(t, f, api.MaxInputs)
		wantSlimmed(t, c, c)
		if 2*len(c.Gates) < api.MaxNodes {
			d := checkBoth(t, api.FXor, c, c)
			wantSlimmed(t, d, circuitOf(api.MaxInputs, append(c.Gates[:len(c.Gates):len(c.Gates)], twice(api.FXor)(len(c.Gates)-1))...))
		}
	}
}
