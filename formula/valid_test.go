package formula_test

import (
	"math"
	"testing"

	"commodatum/api"
	"commodatum/formula"
)

// wantMeasures fails unless the functions that measure a formula return these numbers.
func wantMeasures(t *testing.T, what string, f api.Formula, wanted numbers) {
	t.Helper()
	if !formula.Valid(f) {
		t.Errorf("%s is not valid", what)
	}
	inputs, size, depth := formula.Inputs(f), formula.Size(f), formula.Depth(f)
	if inputs != wanted.inputs || size != wanted.size || depth != wanted.depth {
		t.Errorf("%s: Inputs %d, Size %d, Depth %d; want %v", what, inputs, size, depth, wanted)
	}
}

// wantNone fails unless the functions find that a formula is not valid.
func wantNone(t *testing.T, what string, f api.Formula) {
	t.Helper()
	if formula.Valid(f) {
		t.Errorf("%s is valid", what)
	}
	inputs, size, depth := formula.Inputs(f), formula.Size(f), formula.Depth(f)
	if inputs != -1 || size != -1 || depth != -1 {
		t.Errorf("%s: Inputs %d, Size %d, Depth %d; want -1", what, inputs, size, depth)
	}
}

// badFormulas are formulas that are not valid, by what is wrong with them.
func badFormulas() map[string]api.Formula {
	leaf := x(0)
	bad := map[string]api.Formula{
		"an FVar with N -1":                 x(-1),
		"an FVar with N 16":                 x(api.MaxInputs),
		"an FVar with N 2^32":               x(1 << 32),
		"an FVar with the greatest N":       x(math.MaxInt),
		"an FVar with the least N":          x(math.MinInt),
		"an FConst with N -1":               bit(-1),
		"an FConst with N 2":                bit(2),
		"an FConst with N 2^32":             bit(1 << 32),
		"an FConst with the least N":        bit(math.MinInt),
		"an FVar with a kid":                node(api.FVar, leaf),
		"an FConst with a kid":              node(api.FConst, leaf),
		"an FConst with two kids":           node(api.FConst, leaf, leaf),
		"an FNot without kids":              node(api.FNot),
		"an FNot with two kids":             node(api.FNot, leaf, leaf),
		"an FAnd with four kids":            node(api.FAnd, leaf, leaf, leaf, leaf),
		"an FAnd with very many kids":       node(api.FAnd, make([]api.Formula, 1<<20)...),
		"a leaf with very many kids":        node(api.FVar, make([]api.Formula, 1<<20)...),
		"an unknown kind -1":                node(-1),
		"an unknown kind -1 with two kids":  node(-1, leaf, leaf),
		"an unknown kind 6":                 node(api.FKinds),
		"an unknown kind 6 with a kid":      node(api.FKinds, leaf),
		"an unknown kind 6 with two kids":   node(api.FKinds, leaf, leaf),
		"an unknown kind 2^32":              node(1<<32, leaf),
		"the greatest kind":                 node(math.MaxInt, leaf, leaf),
		"the least kind":                    node(math.MinInt, leaf, leaf),
		"the zero node with a list of kids": {Kids: []api.Formula{{}}},
	}
	for _, kind := range []int{api.FAnd, api.FOr, api.FXor} {
		name := writeFormula(node(kind, leaf, leaf))
		bad[name+" without kids"] = node(kind)
		bad[name+" with one kid"] = node(kind, leaf)
		bad[name+" with three kids"] = node(kind, leaf, leaf, leaf)
	}
	for kind, kids := range map[int]int{api.FNot: 1, api.FAnd: 2, api.FOr: 2, api.FXor: 2} {
		for name, n := range map[string]int{"1": 1, "-1": -1, "2^32": 1 << 32, "the greatest": math.MaxInt} {
			bad[brief(node(kind, leaf, leaf))+" with N "+name] = api.Formula{Kind: kind, N: n, Kids: repeated(leaf, kids)}
		}
	}
	for name, f := range hugeFormulas() {
		bad[name] = f
	}
	return bad
}

// hugeFormulas are formulas that are too great, some of them without end.
func hugeFormulas() map[string]api.Formula {
	endless := []api.Formula{{Kind: api.FNot}}
	endless[0].Kids = endless
	both := []api.Formula{{Kind: api.FAnd}, {Kind: api.FOr}}
	both[0].Kids, both[1].Kids = both, both
	late := []api.Formula{x(0), {Kind: api.FXor}}
	late[1].Kids = late
	twice := func(f api.Formula) api.Formula { return xor(f, f) }
	return map[string]api.Formula{
		"MaxNodes + 1 nodes":                not(not(balanced(and, repeated(x(1), 10000)))),
		"MaxNodes + 1 nodes in pairs":       balanced(or, repeated(x(1), 10001)),
		"MaxDepth + 1 nested negations":     nested(not, x(0), api.MaxDepth+1),
		"MaxDepth + 1 nested on the left":   nested(andOnTheLeft, x(0), api.MaxDepth+1),
		"MaxDepth + 1 nested on the right":  nested(andOnTheRight, x(0), api.MaxDepth+1),
		"2^61 - 1 nodes":                    nested(twice, x(2), 61),
		"2^15 - 1 nodes in shared memory":   nested(twice, x(2), 15),
		"a list of kids that contains it":   {Kind: api.FNot, Kids: endless},
		"two kids that contain themselves":  both[0],
		"a second kid that contains itself": late[1],
	}
}

func andOnTheLeft(f api.Formula) api.Formula { return and(f, x(3)) }

func andOnTheRight(f api.Formula) api.Formula { return and(x(3), f) }

func TestNotValid(t *testing.T) {
	for name, f := range badFormulas() {
		wantNone(t, name, f)
	}
}

// A formula is not valid if any node is not, wherever it is.
func TestNotValidInside(t *testing.T) {
	for name, bad := range badFormulas() {
		for i := range 7 {
			f := []api.Formula{
				not(bad), and(bad, x(0)), and(x(0), bad), or(bad, x(0)), or(x(0), bad), xor(bad, x(0)), xor(x(0), bad),
			}[i]
			wantNone(t, name+" as a kid", f)
		}
		wantNone(t, name+" deep inside", nested(andOnTheLeft, nested(not, bad, 20), 20))
		wantNone(t, name+" at the end", balanced(and, append(repeated(x(4), 1000), bad)))
	}
}

// Formulas of one node.
func TestLeaves(t *testing.T) {
	for i := range api.MaxInputs {
		wantMeasures(t, brief(x(i)), x(i), numbers{inputs: i + 1, size: 1})
		f := x(i)
		f.Kids = []api.Formula{}
		wantMeasures(t, "an FVar with an empty list of kids", f, numbers{inputs: i + 1, size: 1})
	}
	wantMeasures(t, "0", bit(0), numbers{size: 1})
	wantMeasures(t, "1", bit(1), numbers{size: 1})
	wantMeasures(t, "the zero formula", api.Formula{}, numbers{inputs: 1, size: 1})
}

func TestMeasures(t *testing.T) {
	for _, f := range append(smallFormulas(), someFormulas(1)...) {
		wantMeasures(t, brief(f), f, numbersOf(f))
	}
	wantMeasures(t, "the example", or(x(0), and(x(1), not(x(2)))), numbers{inputs: 3, size: 3, depth: 2})
	wantMeasures(t, "an xor", xor(x(0), x(1)), numbers{inputs: 2, size: 2, depth: 2})
	wantMeasures(t, "xor beside and", xor(xor(bit(0), x(15)), not(and(x(0), or(x(1), x(1))))), numbers{inputs: 16, size: 5, depth: 4})
	wantMeasures(t, "and beside xor", and(and(and(bit(0), bit(0)), bit(1)), xor(bit(0), bit(1))), numbers{size: 5, depth: 3})
}

func TestNodesLimit(t *testing.T) {
	leaves := repeated(x(5), 10000)
	wantMeasures(t, "19999 nodes", balanced(and, leaves), numbers{inputs: 6, size: 10000, depth: 14})
	wantMeasures(t, "20000 nodes", not(balanced(xor, leaves)), numbers{inputs: 6, size: 10000, depth: 28})
	wantMeasures(t, "20000 nodes with FNot in the middle", or(not(x(0)), balanced(or, leaves[:9999])), numbers{inputs: 6, size: 10000, depth: 15})
	wantNone(t, "20001 nodes", balanced(and, append(leaves, x(0))))
	wantNone(t, "20001 nodes with FNot in the middle", or(not(not(x(0))), balanced(or, leaves[:9999])))
}

func TestDepthLimit(t *testing.T) {
	xorOnTheRight := func(f api.Formula) api.Formula { return xor(bit(0), f) }
	for depth := 998; depth <= 1002; depth++ {
		for _, s := range []struct {
			name   string
			f      api.Formula
			wanted numbers
		}{
			{"negations", nested(not, x(0), depth), numbers{inputs: 1, size: 1}},
			{"FAnd on the left", nested(andOnTheLeft, x(0), depth), numbers{inputs: 4, size: depth, depth: depth - 1}},
			{"FAnd on the right", nested(andOnTheRight, x(0), depth), numbers{inputs: 4, size: depth, depth: depth - 1}},
			{"FXor", nested(xorOnTheRight, x(0), depth), numbers{inputs: 1, size: depth, depth: 2*depth - 2}},
		} {
			if depth <= api.MaxDepth {
				wantMeasures(t, s.name, s.f, s.wanted)
			} else {
				wantNone(t, s.name, s.f)
			}
		}
	}
}

// Kids may share memory: only the numbers of nodes and levels count.
func TestSharedMemory(t *testing.T) {
	twice := func(f api.Formula) api.Formula { return or(f, f) }
	wantMeasures(t, "2^14 - 1 nodes", nested(twice, x(2), 14), numbers{inputs: 3, size: 1 << 13, depth: 13})
}
