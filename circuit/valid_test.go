package circuit_test

import (
	"math"
	"testing"

	"commodatum/api"
	"commodatum/circuit"
)

// badCircuits are circuits that are not valid, by what is wrong with them.
func badCircuits() map[string]api.Circuit {
	bad := map[string]api.Circuit{
		"the zero circuit":             {},
		"no gates":                     {Inputs: 3},
		"an empty list of gates":       {Inputs: 3, Gates: []api.Gate{}},
		"MaxNodes + 1 gates":           chain(1, []api.Gate{in(0)}, api.MaxNodes, not),
		"MaxNodes + 1 leaves":          circuitOf(1, make([]api.Gate, api.MaxNodes+1)...),
		"2^22 gates":                   circuitOf(1, make([]api.Gate, 1<<22)...),
		"-1 inputs":                    circuitOf(-1, bit(0)),
		"the least number of inputs":   circuitOf(math.MinInt, bit(0)),
		"MaxInputs + 1 inputs":         circuitOf(api.MaxInputs+1, bit(0)),
		"2^32 + 1 inputs":              circuitOf(1<<32+1, in(0)),
		"the most inputs":              circuitOf(math.MaxInt, in(0)),
		"an FVar without inputs":       circuitOf(0, in(0)),
		"the second of one input":      circuitOf(1, in(1)),
		"an input beyond the last one": circuitOf(api.MaxInputs, in(0), in(api.MaxInputs)),
	}
	for name, g := range badGates() {
		bad[name] = circuitOf(5, in(0), in(1), g)
		bad[name+" before others"] = circuitOf(api.MaxInputs, in(0), bit(1), g, not(0), and(1, 3))
	}
	bad["a first gate that negates itself"] = circuitOf(1, not(0))
	bad["a first gate that joins itself"] = circuitOf(1, or(0, 0))
	bad["two gates that negate each other"] = circuitOf(1, in(0), not(2), not(1))
	return bad
}

// badGates are gates that are not valid as the third one of a circuit.
func badGates() map[string]api.Gate {
	bad := map[string]api.Gate{
		"an FVar with N -1":                in(-1),
		"an FVar with N 16":                in(api.MaxInputs),
		"an FVar with the greatest N":      in(math.MaxInt),
		"an FVar with the least N":         in(math.MinInt),
		"an FConst with N -1":              bit(-1),
		"an FConst with N 2":               bit(2),
		"an FConst with N 2^32":            bit(1 << 32),
		"an FConst with the least N":       bit(math.MinInt),
		"an FVar with a kid":               gate(api.FVar, 0),
		"an FVar with two kids":            gate(api.FVar, 0, 1),
		"an FConst with a kid":             gate(api.FConst, 1),
		"an FConst with very many kids":    gate(api.FConst, make([]int, 1<<20)...),
		"an unknown kind -1":               gate(-1),
		"an unknown kind -1 with two kids": gate(-1, 0, 1),
		"an unknown kind 6":                gate(api.FKinds),
		"an unknown kind 6 with a kid":     gate(api.FKinds, 0),
		"an unknown kind 6 with two kids":  gate(api.FKinds, 0, 1),
		"an unknown kind 2^32 + 2":         gate(1<<32+api.FNot, 0),
		"the greatest kind":                gate(math.MaxInt, 0, 1),
		"the least kind":                   gate(math.MinInt),
	}
	names := []string{api.FNot: "an FNot", api.FAnd: "an FAnd", api.FOr: "an FOr", api.FXor: "an FXor"}
	for kind := api.FNot; kind < api.FKinds; kind++ {
		kids := []int{0, 1}[:min(2, kind-1)] // one kid of an FNot
		for number, n := range map[string]int{"1": 1, "-1": -1, "2^32": 1 << 32, "the greatest": math.MaxInt} {
			bad[names[kind]+" with N "+number] = api.Gate{Kind: kind, N: n, Kids: kids}
		}
		for count := range 5 {
			if count != len(kids) {
				bad[names[kind]+" with another number of kids: "+string(rune('0'+count))] = gate(kind, make([]int, count)...)
			}
		}
		for what, kid := range map[string]int{"itself": 2, "the next one": 3, "one far later": 20, "-1": -1, "the least": math.MinInt, "the greatest": math.MaxInt, "2^32": 1 << 32} {
			for at := range kids {
				wrong := []int{1, 1}[:len(kids)]
				wrong[at] = kid
				bad[names[kind]+" with a kid that is "+what+", at "+string(rune('0'+at))] = gate(kind, wrong...)
			}
		}
	}
	return bad
}

func TestNotValid(t *testing.T) {
	for name, c := range badCircuits() {
		if circuit.Valid(c) {
			t.Errorf("%s is valid", name)
		}
		if depth := circuit.Depth(c); depth != -1 {
			t.Errorf("%s has the depth %d", name, depth)
		}
	}
}

func wantDepth(t *testing.T, what string, c api.Circuit, depth int) {
	t.Helper()
	if !circuit.Valid(c) {
		t.Errorf("%s is not valid: %s", what, brief(c))
	}
	if got := circuit.Depth(c); got != depth {
		t.Errorf("%s: Depth %d; want %d", what, got, depth)
	}
}

func TestLimits(t *testing.T) {
	for inputs := 0; inputs <= api.MaxInputs; inputs++ {
		wantDepth(t, "one gate", circuitOf(inputs, bit(1)), 0)
		if inputs > 0 {
			wantDepth(t, "the last input", circuitOf(inputs, in(inputs-1)), 0)
		}
		if c := circuitOf(inputs, bit(0), in(inputs)); circuit.Valid(c) {
			t.Errorf("valid: %s", brief(c))
		}
	}
	most := api.MaxNodes - 1
	wantDepth(t, "MaxNodes gates", chain(1, []api.Gate{in(0)}, most, not), 0)
	wantDepth(t, "MaxNodes leaves", circuitOf(1, make([]api.Gate, api.MaxNodes)...), 0)
	wantDepth(t, "a long chain of FAnd", chain(0, []api.Gate{bit(1)}, most, twice(api.FAnd)), most)
	wantDepth(t, "a long chain of FOr", chain(0, []api.Gate{bit(1)}, most, twice(api.FOr)), most)
	wantDepth(t, "a long chain of FXor", chain(0, []api.Gate{bit(1)}, most, twice(api.FXor)), 2*most)
}

func TestDepth(t *testing.T) {
	wantDepth(t, "FAnd", circuitOf(1, in(0), not(0), and(0, 1)), 1)
	wantDepth(t, "FOr", circuitOf(2, in(0), in(1), or(0, 1)), 1)
	wantDepth(t, "FXor", circuitOf(2, in(0), in(1), xor(0, 1)), 2)
	wantDepth(t, "a kid twice", circuitOf(1, in(0), xor(0, 0), and(1, 1), not(2)), 3)
	wantDepth(t, "the first kid is deeper", circuitOf(2, in(0), in(1), and(0, 1), or(2, 0)), 2)
	wantDepth(t, "the second kid is deeper", circuitOf(2, in(0), in(1), xor(0, 1), xor(0, 2)), 4)
	wantDepth(t, "a last gate that uses no other", circuitOf(2, in(0), in(1), xor(0, 1), xor(2, 2), in(1)), 0)
	wantDepth(t, "a last gate that is not the deepest", circuitOf(2, in(0), in(1), xor(0, 1), xor(2, 2), or(0, 1)), 1)
	for _, c := range append(smallCircuits(), someCircuits(1, api.MaxNodes)...) {
		if depth := circuit.Depth(c); depth != depthOf(c) {
			t.Fatalf("%s: Depth %d; want %d", brief(c), depth, depthOf(c))
		}
	}
}

// All gates with small numbers, valid or not, in all places.
func TestValidGates(t *testing.T) {
	lists := [][]int{nil}
	for a := -1; a <= 3; a++ {
		lists = append(lists, []int{a})
		for b := -1; b <= 3; b++ {
			lists = append(lists, []int{a, b}, []int{a, b, 0})
		}
	}
	for inputs := -1; inputs <= 3; inputs++ {
		for earlier := range 3 {
			for kind := -1; kind <= api.FKinds; kind++ {
				for n := -1; n <= 4; n++ {
					for _, kids := range lists {
						c := circuitOf(inputs, []api.Gate{bit(0), bit(1)}[:earlier]...)
						c.Gates = append(c.Gates, api.Gate{Kind: kind, N: n, Kids: kids}, bit(1))
						if circuit.Valid(c) != isValid(c) {
							t.Fatalf("Valid(%s) = %v", brief(c), !isValid(c))
						}
					}
				}
			}
		}
	}
}
