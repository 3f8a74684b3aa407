package circuit_test

import (
	"math"
	"slices"
	"testing"

	"commodatum/api"
	"commodatum/circuit"
)

// kinds are the kinds that Both permits.
func kinds() []int { return []int{api.FAnd, api.FOr, api.FXor} }

// P7.4: Both has the combined value.
func TestBothSmall(t *testing.T) {
	for inputs := range 3 {
		all := append(allCircuits(inputs, 1), allCircuits(inputs, 2)...)
		for _, c := range all {
			for _, d := range all {
				for _, kind := range kinds() {
					checkBoth(t, kind, c, d)
				}
			}
		}
	}
}

func TestBothSome(t *testing.T) {
	random := source(13)
	all := someCircuits(14, 300)
	for range 3000 {
		c, d := all[random.below(len(all))], all[random.below(len(all))]
		kind := kinds()[random.below(3)]
		if c.Inputs == d.Inputs {
			checkBoth(t, kind, c, d)
		} else {
			wantArg(t, kind, c, d)
		}
		checkBoth(t, kind, c, c)
	}
}

func TestBothTables(t *testing.T) {
	c, d := circuitOf(2, in(0), in(1), or(0, 1)), circuitOf(2, in(1), not(0))
	for kind, want := range map[int][]bool{
		api.FAnd: {false, true, false, false}, api.FOr: {true, true, true, true}, api.FXor: {true, false, true, true},
	} {
		table, e := circuit.Table(checkBoth(t, kind, c, d))
		if e != api.OK || !slices.Equal(table, want) {
			t.Errorf("kind %d: %v, %v", kind, table, e)
		}
	}
	// A circuit with itself.
	itself, _ := circuit.Table(c)
	for _, kind := range kinds() {
		want := itself
		if kind == api.FXor {
			want = make([]bool, 4)
		}
		table, e := circuit.Table(checkBoth(t, kind, c, c))
		if e != api.OK || !slices.Equal(table, want) {
			t.Errorf("kind %d: %v, %v", kind, table, e)
		}
	}
}

// wantArg fails unless Both returns ErrArg.
func wantArg(t *testing.T, kind int, c, d api.Circuit) {
	t.Helper()
	if both, e := circuit.Both(kind, c, d); e != api.ErrArg || !isZero(both) {
		t.Errorf("Both(%d, %s, %s) = %s, %v", kind, brief(c), brief(d), brief(both), e)
	}
}

func TestBothErrArg(t *testing.T) {
	great := chain(3, []api.Gate{in(0)}, api.MaxNodes-1, not)
	for _, c := range []api.Circuit{circuitOf(3, in(2)), circuitOf(3, bit(1)), great} {
		for _, kind := range []int{api.FVar, api.FConst, api.FNot, api.FKinds, -1, 7, 1<<32 + api.FAnd, math.MaxInt, math.MinInt} {
			wantArg(t, kind, c, c)
			wantArg(t, kind, c, great) // before ErrSize
		}
		for _, kind := range kinds() {
			for _, inputs := range []int{0, 1, 2, 4, 16} {
				wantArg(t, kind, c, circuitOf(inputs, bit(0)))
				wantArg(t, kind, circuitOf(inputs, bit(0)), c)
			}
			wantArg(t, kind, great, chain(4, []api.Gate{in(0)}, api.MaxNodes-1, not)) // before ErrSize
		}
	}
}

func TestBothErrSize(t *testing.T) {
	for _, kind := range kinds() {
		for _, gates := range []int{1, 2, 10, api.MaxNodes / 2, api.MaxNodes/2 + 1, api.MaxNodes - 2} {
			c := chain(2, []api.Gate{in(0)}, gates-1, not)
			d := chain(2, []api.Gate{in(1)}, api.MaxNodes-1-gates-1, not)
			both := checkBoth(t, kind, c, d) // MaxNodes - 1 gates together
			if len(both.Gates) != api.MaxNodes {
				t.Errorf("%d gates", len(both.Gates))
			}
			for range 2 {
				d.Gates = append(d.Gates, xor(0, len(d.Gates)-1))
				if both, e := circuit.Both(kind, c, d); e != api.ErrSize || !isZero(both) {
					t.Errorf("%d and %d gates: %d, %v", len(c.Gates), len(d.Gates), len(both.Gates), e)
				}
			}
		}
		great := chain(2, []api.Gate{in(0)}, api.MaxNodes-1, not)
		for _, pair := range [][2]api.Circuit{{great, great}, {great, circuitOf(2, bit(0))}, {circuitOf(2, bit(0)), great}} {
			if both, e := circuit.Both(kind, pair[0], pair[1]); e != api.ErrSize || !isZero(both) {
				t.Errorf("%d gates, %v", len(both.Gates), e)
			}
		}
	}
}
