package formula_test

import (
	"math"
	"slices"
	"testing"

	"commodatum/api"
	"commodatum/formula"
)

// wantMeasuresExpr fails unless the functions that measure an expression return these numbers.
func wantMeasuresExpr(t *testing.T, what string, f api.Field, e api.Expr, wanted numbers) {
	t.Helper()
	if !formula.ValidExpr(f, e) {
		t.Errorf("%v: %s is not valid", f, what)
	}
	inputs, size, depth := formula.InputsExpr(f, e), formula.SizeExpr(f, e), formula.DepthExpr(f, e)
	if inputs != wanted.inputs || size != wanted.size || depth != wanted.depth {
		t.Errorf("%v: %s: InputsExpr %d, SizeExpr %d, DepthExpr %d; want %v", f, what, inputs, size, depth, wanted)
	}
}

// wantNoneExpr fails unless the functions find that an expression is not valid.
func wantNoneExpr(t *testing.T, what string, f api.Field, e api.Expr) {
	t.Helper()
	if formula.ValidExpr(f, e) {
		t.Errorf("%v: %s is valid", f, what)
	}
	inputs, size, depth := formula.InputsExpr(f, e), formula.SizeExpr(f, e), formula.DepthExpr(f, e)
	if inputs != -1 || size != -1 || depth != -1 {
		t.Errorf("%v: %s: InputsExpr %d, SizeExpr %d, DepthExpr %d; want -1", f, what, inputs, size, depth)
	}
}

// badExprs are expressions that are not valid over f, by what is wrong with them.
func badExprs(f api.Field) map[string]api.Expr {
	leaf := in(0)
	bad := map[string]api.Expr{
		"an EVar with N -1":                in(-1),
		"an EVar with N 16":                in(api.MaxInputs),
		"an EVar with N 2^32":              in(1 << 32),
		"an EVar with the greatest N":      in(math.MaxInt),
		"an EVar with the least N":         in(math.MinInt),
		"an EConst with N -1":              number(-1),
		"an EConst with the order":         number(orderOf(f)),
		"an EConst with N 65536":           number(65536),
		"an EConst with N 2^32":            number(1 << 32),
		"an EConst with the greatest N":    number(math.MaxInt),
		"an EConst with the least N":       number(math.MinInt),
		"an EVar with a kid":               exprNode(api.EVar, leaf),
		"an EVar with two kids":            exprNode(api.EVar, leaf, leaf),
		"an EConst with a kid":             exprNode(api.EConst, leaf),
		"an EConst with two kids":          exprNode(api.EConst, leaf, leaf),
		"an EMul with very many kids":      exprNode(api.EMul, make([]api.Expr, 1<<20)...),
		"an unknown kind -1":               exprNode(-1),
		"an unknown kind -1 with two kids": exprNode(-1, leaf, leaf),
		"an unknown kind 4":                exprNode(api.EKinds),
		"an unknown kind 4 with two kids":  exprNode(api.EKinds, leaf, leaf),
		"an unknown kind 5 with two kids":  exprNode(api.EKinds+1, leaf, leaf),
		"the greatest kind":                exprNode(math.MaxInt, leaf, leaf),
		"the least kind":                   exprNode(math.MinInt, leaf, leaf),
	}
	for _, kind := range []int{api.EAdd, api.EMul} {
		name := writeExpr(exprNode(kind, leaf, leaf))
		bad[name+" without kids"] = exprNode(kind)
		bad[name+" with one kid"] = exprNode(kind, leaf)
		bad[name+" with three kids"] = exprNode(kind, leaf, leaf, leaf)
		for number, n := range map[string]int{"1": 1, "-1": -1, "2^32": 1 << 32, "the greatest": math.MaxInt} {
			bad[name+" with N "+number] = api.Expr{Kind: kind, N: n, Kids: repeated(leaf, 2)}
		}
	}
	for name, e := range hugeExprs() {
		bad[name] = e
	}
	return bad
}

// hugeExprs are expressions that are too great, some of them without end.
func hugeExprs() map[string]api.Expr {
	endless := []api.Expr{{Kind: api.EAdd}, in(0)}
	endless[0].Kids = endless
	both := []api.Expr{{Kind: api.EMul}, {Kind: api.EAdd}}
	both[0].Kids, both[1].Kids = both, both
	twice := func(e api.Expr) api.Expr { return times(e, e) }
	return map[string]api.Expr{
		"MaxNodes + 1 nodes":               balanced(sum, repeated(in(1), 10001)),
		"MaxDepth + 1 nested on the left":  nested(sumOnTheLeft, in(0), api.MaxDepth+1),
		"MaxDepth + 1 nested on the right": nested(timesOnTheRight, in(0), api.MaxDepth+1),
		"2^61 - 1 nodes":                   nested(twice, in(2), 61),
		"2^15 - 1 nodes in shared memory":  nested(twice, in(2), 15),
		"a first kid that contains itself": endless[0],
		"two kids that contain themselves": both[0],
	}
}

func sumOnTheLeft(e api.Expr) api.Expr { return sum(e, in(3)) }

func timesOnTheRight(e api.Expr) api.Expr { return times(number(1), e) }

func TestExprNotValid(t *testing.T) {
	for _, f := range sampleFields() {
		for name, bad := range badExprs(f) {
			wantNoneExpr(t, name, f, bad)
			for _, e := range []api.Expr{sum(bad, in(0)), sum(in(0), bad), times(bad, in(0)), times(in(0), bad)} {
				wantNoneExpr(t, name+" as a kid", f, e)
			}
			wantNoneExpr(t, name+" deep inside", f, nested(sumOnTheLeft, nested(timesOnTheRight, bad, 20), 20))
			wantNoneExpr(t, name+" at the end", f, balanced(sum, append(repeated(in(4), 1000), bad)))
		}
	}
}

// No expression is valid over what is no field.
func TestExprNoField(t *testing.T) {
	for _, f := range notFields() {
		for _, e := range []api.Expr{in(0), number(0), number(1), sum(in(0), in(1)), {}} {
			wantNoneExpr(t, briefExpr(e), f, e)
		}
	}
}

func TestMeasuresExpr(t *testing.T) {
	for _, f := range sampleFields() {
		for _, e := range append(smallExprs(f), someExprs(f, 12)...) {
			wantMeasuresExpr(t, briefExpr(e), f, e, numbersOfExpr(e))
		}
		for i := range api.MaxInputs {
			wantMeasuresExpr(t, "a variable", f, in(i), numbers{inputs: i + 1, size: 1})
		}
		for _, n := range []int{0, 1, orderOf(f) - 1} {
			wantMeasuresExpr(t, "a constant", f, number(n), numbers{size: 1})
			e := api.Expr{Kind: api.EConst, N: n, Kids: []api.Expr{}}
			wantMeasuresExpr(t, "a constant with an empty list of kids", f, e, numbers{size: 1})
		}
		wantMeasuresExpr(t, "the zero expression", f, api.Expr{}, numbers{inputs: 1, size: 1})
		wantMeasuresExpr(t, "the example", f, times(sum(in(0), number(1)), in(1)), numbers{inputs: 2, size: 3, depth: 2})
	}
}

func TestExprLimits(t *testing.T) {
	leaves := repeated(in(5), 10000)
	twice := func(e api.Expr) api.Expr { return sum(e, e) }
	for _, f := range []api.Field{two, binary, prime} {
		wantMeasuresExpr(t, "19999 nodes", f, balanced(times, leaves), numbers{inputs: 6, size: 10000, depth: 14})
		wantNoneExpr(t, "20001 nodes", f, balanced(sum, append(leaves, number(0))))
		wantMeasuresExpr(t, "2^14 - 1 nodes in shared memory", f, nested(twice, in(2), 14), numbers{inputs: 3, size: 1 << 13, depth: 13})
		for depth := 998; depth <= 1002; depth++ {
			left, right := nested(sumOnTheLeft, in(0), depth), nested(timesOnTheRight, in(0), depth)
			if depth > api.MaxDepth {
				wantNoneExpr(t, "nested on the left", f, left)
				wantNoneExpr(t, "nested on the right", f, right)
				continue
			}
			wantMeasuresExpr(t, "nested on the left", f, left, numbers{inputs: 4, size: depth, depth: depth - 1})
			wantMeasuresExpr(t, "nested on the right", f, right, numbers{inputs: 1, size: depth, depth: depth - 1})
		}
	}
}

// pointsOf are some points of n elements.
func pointsOf(f api.Field, n int, random *source) [][]int {
	return [][]int{
		repeated(0, n), repeated(1, n), repeated(orderOf(f)-1, n),
		random.elements(f, n), random.elements(f, n), random.elements(f, n), random.elements(f, n),
	}
}

func TestEvalExpr(t *testing.T) {
	random := source(13)
	for _, f := range sampleFields() {
		for _, e := range append(smallExprs(f), someExprs(f, 14)...) {
			least := numbersOfExpr(e).inputs
			for _, at := range pointsOf(f, least, &random) {
				wanted := elementAt(f, e, at)
				if got := evalExpr(t, f, e, at); got != wanted {
					t.Fatalf("%v: EvalExpr(%s, %v) = %d; want %d", f, briefExpr(e), at, got, wanted)
				}
				longer := append(slices.Clone(at), random.elements(f, 1+random.below(20))...)
				if got := evalExpr(t, f, e, longer); got != wanted {
					t.Fatalf("%v: EvalExpr(%s, %v) = %d; want %d", f, briefExpr(e), longer, got, wanted)
				}
			}
		}
	}
}

// EvalExpr at all points of small fields.
func TestEvalExprEverywhere(t *testing.T) {
	random := source(15)
	for _, f := range []api.Field{two, three, four, five, seven} {
		for range 40 {
			e := random.expr(f, 1+random.below(9), 3)
			for i := range 343 {
				at := []int{i % 7 % orderOf(f), i / 7 % 7 % orderOf(f), i / 49 % orderOf(f)}
				if got := evalExpr(t, f, e, at); got != elementAt(f, e, at) {
					t.Fatalf("%v: EvalExpr(%s, %v) = %d", f, briefExpr(e), at, got)
				}
			}
		}
	}
}

// Lists that are too short, or contain anything but elements, even where no input is.
func TestEvalExprErrors(t *testing.T) {
	random := source(16)
	for _, f := range sampleFields() {
		for _, e := range append(someExprs(f, 17), number(0), in(0), in(15), times(number(0), in(3))) {
			least := numbersOfExpr(e).inputs
			for length := range least {
				if value, err := formula.EvalExpr(f, e, repeated(1, length)); err != api.ErrArg || value != 0 {
					t.Errorf("%v: EvalExpr of %s with %d values = %d, %v", f, briefExpr(e), length, value, err)
				}
			}
			for _, bad := range []int{-1, orderOf(f), orderOf(f) + 1, 1 << 32, math.MinInt, math.MaxInt} {
				at := repeated(0, least+1+random.below(4))
				at[random.below(len(at))] = bad
				if value, err := formula.EvalExpr(f, e, at); err != api.ErrArg || value != 0 {
					t.Errorf("%v: EvalExpr(%s, %v) = %d, %v", f, briefExpr(e), at, value, err)
				}
				at = append(repeated(1, least), bad)
				if value, err := formula.EvalExpr(f, e, at); err != api.ErrArg || value != 0 {
					t.Errorf("%v: EvalExpr(%s, %v) = %d, %v", f, briefExpr(e), at, value, err)
				}
			}
		}
	}
}

func TestEvalExprGreat(t *testing.T) {
	random := source(18)
	for _, f := range []api.Field{two, prime, binary} {
		leaves := repeated(in(0), 10000)
		for i := range leaves {
			leaves[i] = random.expr(f, 1, 16)
		}
		mixed := func(a, b api.Expr) api.Expr { return exprNode(api.EAdd+random.below(2), a, b) }
		deep := nested(func(e api.Expr) api.Expr { return mixed(e, random.expr(f, 1, 16)) }, in(15), api.MaxDepth)
		for _, e := range []api.Expr{balanced(mixed, leaves), balanced(sum, leaves), balanced(times, leaves), deep} {
			at := random.elements(f, 16)
			if got := evalExpr(t, f, e, at); got != elementAt(f, e, at) {
				t.Errorf("%v: EvalExpr(%s, %v) = %d", f, briefExpr(e), at, got)
			}
		}
	}
}
