package formula_test

import (
	"testing"

	"commodatum/api"
	"commodatum/field"
	"commodatum/formula"
	"commodatum/poly"
)

// arith returns the expression for g, which must be valid.
func arith(t *testing.T, f api.Field, g api.Formula) api.Expr {
	t.Helper()
	e, err := formula.Arith(f, g)
	if err != api.OK || !formula.ValidExpr(f, e) {
		t.Fatalf("%v: Arith(%s) = %s, %v", f, brief(g), briefExpr(e), err)
	}
	return e
}

// checkArith checks the depth and the inputs of the expression for g, and its values at these points.
func checkArith(t *testing.T, f api.Field, g api.Formula, e api.Expr, points [][]bool) {
	t.Helper()
	depth, limit := numbersOfExpr(e).depth, 4*numbersOf(g).depth+2
	if depth > limit {
		t.Fatalf("%v: the expression for %s has depth %d, not at most %d", f, brief(g), depth, limit)
	}
	used := usedInputs(g)
	for i := range usedInputsOfExpr(e) {
		if !used[i] {
			t.Fatalf("%v: the expression for %s has the input %d", f, brief(g), i)
		}
	}
	for _, at := range points {
		values, wanted := make([]int, len(at)), 0
		for i, is := range at {
			if is {
				values[i] = 1
			}
		}
		if trueAt(g, at) {
			wanted = 1
		}
		if got := evalExpr(t, f, e, values); got != wanted {
			t.Fatalf("%v: the expression for %s is %d at %v", f, brief(g), got, at)
		}
	}
}

// allPoints are all values of n inputs.
func allPoints(n int) [][]bool {
	points := make([][]bool, 1<<n)
	for i := range points {
		points[i] = pointOf(i, n)
	}
	return points
}

// somePoints are some values of all inputs.
func somePoints(random *source, count int) [][]bool {
	points := [][]bool{repeated(false, api.MaxInputs), repeated(true, api.MaxInputs)}
	for range count {
		points = append(points, random.bits(api.MaxInputs))
	}
	return points
}

// P5.4: Arith has the values of the formula, for all small formulas over fields of both sorts.
func TestArithSmall(t *testing.T) {
	points := allPoints(2)
	for _, f := range sampleFields() {
		for _, g := range smallFormulas() {
			checkArith(t, f, g, arith(t, f, g), points)
		}
	}
	for _, f := range []api.Field{two, three, four} {
		for _, g := range allFormulas(7, x(1), bit(1)) {
			checkArith(t, f, g, arith(t, f, g), points)
		}
	}
}

// P5.4 holds over every field.
func TestArithEveryField(t *testing.T) {
	points := allPoints(3)
	g := or(and(x(0), not(x(1))), not(xor(or(x(1), x(2)), not(xor(x(0), x(2))))))
	for p := 2; p < api.MaxField; p++ {
		for m := 1; m == 1 || p == 2 && m <= 16; m++ {
			if f := (api.Field{P: p, M: m}); field.Valid(f) {
				checkArith(t, f, g, arith(t, f, g), points)
			}
		}
	}
}

func TestArithSamples(t *testing.T) {
	random := source(30)
	for _, f := range sampleFields() {
		for _, g := range append(someFormulas(31), x(15), not(x(15)), bit(0), not(bit(0)), bit(1), not(not(bit(1)))) {
			checkArith(t, f, g, arith(t, f, g), somePoints(&random, 6))
		}
	}
}

// complete returns a formula in which each way from the top to a leaf has just that depth. The kids of FXor are less
// deep by 2, those of FAnd and FOr by 1; between are up to that many negations.
func complete(random *source, depth, negations int) api.Formula {
	f := x(random.below(api.MaxInputs))
	if depth > 0 {
		kind := api.FAnd + random.below(min(depth+1, 3))
		less := 1
		if kind == api.FXor {
			less = 2
		}
		f = node(kind, complete(random, depth-less, negations), complete(random, depth-less, negations))
	}
	return nested(not, f, 1+random.below(negations+1))
}

// ErrSize is not returned if the depth is at most 6, however many negations there are.
func TestArithDepthSix(t *testing.T) {
	random := source(32)
	for _, f := range sampleFields() {
		for depth := range 7 {
			for _, negations := range []int{0, 1, 2, 100} {
				g := complete(&random, depth, negations)
				checkArith(t, f, g, arith(t, f, g), somePoints(&random, 10))
			}
		}
		leaves := make([]api.Formula, 64)
		for i := range leaves {
			leaves[i] = x(random.below(api.MaxInputs))
		}
		for _, g := range []api.Formula{
			balanced(xor, leaves[:8]), balanced(or, leaves), balanced(and, leaves),
			nested(not, balanced(xor, leaves[:8]), api.MaxDepth-3),
			balanced(xor, repeated(nested(not, x(7), 900), 8)),
			balanced(or, repeated(nested(not, x(7), 300), 64)),
			nested(not, x(0), api.MaxDepth), nested(not, bit(1), api.MaxDepth-1),
			xor(and(or(x(0), x(1)), and(x(2), x(3))), xor(x(4), not(and(x(5), or(x(6), x(7)))))),
		} {
			checkArith(t, f, g, arith(t, f, g), somePoints(&random, 10))
		}
	}
}

// chain returns a formula that is nested that deep, whose kinds take turns.
func chain(depth int, kinds ...int) api.Formula {
	f := x(0)
	for level := range depth - 1 {
		other := x(level % api.MaxInputs)
		switch kind := kinds[level%len(kinds)]; {
		case kind == api.FNot:
			f = not(f)
		case level%3 == 0:
			f = node(kind, f, other)
		default:
			f = node(kind, other, f)
		}
	}
	return f
}

// sized returns a formula without FXor that has just that many nodes and is not nested deep.
func sized(random *source, nodes int) api.Formula {
	if nodes%2 == 0 {
		return not(sized(random, nodes-1))
	}
	leaves := make([]api.Formula, (nodes+1)/2)
	for i := range leaves {
		leaves[i] = x(random.below(api.MaxInputs))
	}
	return balanced(func(f, g api.Formula) api.Formula { return node(api.FAnd+random.below(2), f, g) }, leaves)
}

// withoutXor are kinds that take turns.
func withoutXor() [][]int {
	return [][]int{
		{api.FAnd}, {api.FOr}, {api.FNot}, {api.FAnd, api.FOr}, {api.FOr, api.FOr, api.FAnd}, {api.FNot, api.FAnd}, {api.FOr, api.FNot},
		{api.FAnd, api.FNot, api.FOr, api.FNot}, {api.FAnd, api.FOr, api.FNot}, {api.FAnd, api.FOr, api.FNot, api.FNot},
	}
}

// ErrSize is not returned without FXor for at most 1000 nodes that are nested at most 300 deep.
func TestArithWithoutXor(t *testing.T) {
	random := source(33)
	for _, f := range sampleFields() {
		for _, kinds := range withoutXor() {
			g := chain(299, kinds...)
			g = or(sized(&random, 999-numbersOf(g).nodes), g)
			if n := numbersOf(g); n.nodes != 1000 || n.nesting != 300 {
				t.Fatalf("the formula has %v", n)
			}
			checkArith(t, f, g, arith(t, f, g), somePoints(&random, 6))
			checkArith(t, f, not(g.Kids[1]), arith(t, f, not(g.Kids[1])), somePoints(&random, 6))
		}
		g := sized(&random, 1000)
		checkArith(t, f, g, arith(t, f, g), somePoints(&random, 6))
	}
}

// Beyond that there may be an error, but nothing that is wrong or too great.
func TestArithGreat(t *testing.T) {
	random := source(34)
	leaves := make([]api.Formula, 10000)
	for i := range leaves {
		leaves[i] = x(random.below(api.MaxInputs))
	}
	mixed := func(f, g api.Formula) api.Formula { return node(api.FAnd+random.below(3), f, not(g)) }
	all := []api.Formula{
		balanced(and, leaves), balanced(or, leaves), balanced(xor, leaves), not(balanced(or, leaves)), not(balanced(xor, leaves)),
		balanced(mixed, leaves[:6000]), balanced(mixed, leaves[:2000]), balanced(mixed, leaves[:1000]), sized(&random, 20000),
	}
	for _, kinds := range append(withoutXor(), []int{api.FXor}, []int{api.FXor, api.FOr}, []int{api.FXor, api.FNot, api.FAnd}) {
		for _, depth := range []int{301, 350, 499, 500, 501, 700, 999, 1000} {
			all = append(all, chain(depth, kinds...))
		}
	}
	for _, f := range []api.Field{two, three, binary, prime} {
		for _, g := range all {
			e, err := formula.Arith(f, g)
			if err == api.ErrSize && isZeroExpr(e) {
				continue
			}
			if err != api.OK || !formula.ValidExpr(f, e) {
				t.Fatalf("%v: Arith(%s) = %s, %v", f, brief(g), briefExpr(e), err)
			}
			checkArith(t, f, g, e, somePoints(&random, 3))
		}
	}
}

// P7: the polynomial of the expression is 1 where the table of the formula is true, and 0 where it is false.
func TestArithPolynomials(t *testing.T) {
	random := source(35)
	for _, f := range sampleFields() {
		for range 20 {
			g := random.formula(1+random.below(6), 4)
			p := polyOf(t, f, arith(t, f, g), 4)
			for i, is := range tableOf(t, g, 4) {
				at := []int{i & 1, i >> 1 & 1, i >> 2 & 1, i >> 3}
				value, err := poly.Eval(f, 4, p, at)
				if err != api.OK || value > 1 || (value == 1) != is {
					t.Fatalf("%v: the polynomial for %s is %d, %v at %v", f, brief(g), value, err, at)
				}
			}
		}
	}
}
