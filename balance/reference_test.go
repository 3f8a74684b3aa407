package balance_test

import (
	"slices"
	"testing"

	"commodatum/api"
	"commodatum/formula"
	"commodatum/poly"
)

// numbers are all the numbers of a formula or an expression.
type numbers struct{ nodes, nesting, size, depth int }

// numbersOf counts them by their definitions.
func numbersOf(f api.Formula) numbers {
	if len(f.Kids) == 0 {
		return numbers{1, 1, 1, 0}
	}
	n := numbersOf(f.Kids[0])
	if f.Kind != api.FNot {
		n = n.beside(numbersOf(f.Kids[1]))
		n.depth++
	}
	if f.Kind == api.FXor {
		n.depth++
	}
	n.nodes++
	n.nesting++
	return n
}

// numbersOfExpr is numbersOf for expressions.
func numbersOfExpr(e api.Expr) numbers {
	if len(e.Kids) == 0 {
		return numbers{1, 1, 1, 0}
	}
	n := numbersOfExpr(e.Kids[0]).beside(numbersOfExpr(e.Kids[1]))
	return numbers{n.nodes + 1, n.nesting + 1, n.size, n.depth + 1}
}

// beside returns the numbers of both kids of a node, without the node.
func (n numbers) beside(m numbers) numbers {
	return numbers{n.nodes + m.nodes, max(n.nesting, m.nesting), n.size + m.size, max(n.depth, m.depth)}
}

// depthLimit is the greatest depth that Balance and BalanceExpr permit.
func depthLimit(size int) int {
	b := 0
	for 1<<b < size {
		b++
	}
	return 4*b + 2
}

// usedInputs says which inputs a formula has.
func usedInputs(f api.Formula) (used [api.MaxInputs]bool) {
	if f.Kind == api.FVar {
		used[f.N] = true
	}
	for _, kid := range f.Kids {
		for i, is := range usedInputs(kid) {
			used[i] = used[i] || is
		}
	}
	return used
}

// usedInputsOfExpr is usedInputs for expressions.
func usedInputsOfExpr(e api.Expr) (used [api.MaxInputs]bool) {
	if e.Kind == api.EVar {
		used[e.N] = true
	}
	for _, kid := range e.Kids {
		for i, is := range usedInputsOfExpr(kid) {
			used[i] = used[i] || is
		}
	}
	return used
}

// contains reports whether a formula in f, or f itself, is like that.
func contains(f api.Formula, like func(api.Formula) bool) bool {
	return like(f) || slices.ContainsFunc(f.Kids, func(kid api.Formula) bool { return contains(kid, like) })
}

func isXor(f api.Formula) bool { return f.Kind == api.FXor }

func isConst(f api.Formula) bool { return f.Kind == api.FConst }

// function is what a Boolean function of MaxInputs inputs is at some points: 64 values in each word.
type function []uint64

// inputFunctions are the values of all inputs at all points: bit i of the number of a point is the value of the input i.
var inputFunctions = func() (list [api.MaxInputs]function) {
	for i := range list {
		list[i] = make(function, 1<<api.MaxInputs/64)
		for p := range 1 << api.MaxInputs {
			list[i][p/64] |= uint64(p>>i&1) << (p % 64)
		}
	}
	return list
}()

// pointsFor returns the numbers of the words in which formulas are to be compared: all in which inputs of the formulas
// differ, or, if these are too many for a great formula, some of them.
func pointsFor(list ...api.Formula) []int {
	inputs, nodes := 0, 0
	for _, f := range list {
		nodes += numbersOf(f).nodes
		for i, is := range usedInputs(f) {
			if is {
				inputs = max(inputs, i+1)
			}
		}
	}
	all := 1 << max(0, inputs-6)
	count := all
	if nodes > 100 {
		count = min(all, 64)
	}
	points := make([]int, count)
	for i := range points {
		points[i] = i * 389 % all // 389 is odd, so that all of the words occur if the count is all
	}
	return points
}

// functionOf is the function of a formula, by the definition of its kinds, in the words with these numbers.
func functionOf(f api.Formula, points []int) function {
	if len(f.Kids) == 0 {
		result := make(function, len(points))
		for i, at := range points {
			result[i] = -uint64(f.N)
			if f.Kind == api.FVar {
				result[i] = inputFunctions[f.N][at]
			}
		}
		return result
	}
	result := functionOf(f.Kids[0], points)
	if f.Kind == api.FNot {
		for i := range result {
			result[i] = ^result[i]
		}
		return result
	}
	for i, word := range functionOf(f.Kids[1], points) {
		switch f.Kind {
		case api.FAnd:
			result[i] &= word
		case api.FOr:
			result[i] |= word
		case api.FXor:
			result[i] ^= word
		}
	}
	return result
}

// haveSameFunction reports whether f and g are equal at all points, or, if they are great, at very many.
func haveSameFunction(f, g api.Formula) bool {
	points := pointsFor(f, g)
	return slices.Equal(functionOf(f, points), functionOf(g, points))
}

// wantSame fails unless g has the function of f, and no other inputs.
func wantSame(t *testing.T, what string, f, g api.Formula) {
	t.Helper()
	if !formula.Valid(g) {
		t.Fatalf("%s of %s = %s is not valid", what, brief(f), brief(g))
	}
	used := usedInputs(f)
	for i, is := range usedInputs(g) {
		if is && !used[i] {
			t.Fatalf("%s of %s = %s has the input %d", what, brief(f), brief(g), i)
		}
	}
	if !haveSameFunction(f, g) {
		t.Fatalf("%s of %s = %s has another function", what, brief(f), brief(g))
	}
}

// wantSameExpr fails unless a and b have the same polynomial, and b no other inputs.
func wantSameExpr(t *testing.T, f api.Field, a, b api.Expr) {
	t.Helper()
	if !formula.ValidExpr(f, b) {
		t.Fatalf("%v: BalanceExpr of %s = %s is not valid", f, briefExpr(a), briefExpr(b))
	}
	used := usedInputsOfExpr(a)
	for i, is := range usedInputsOfExpr(b) {
		if is && !used[i] {
			t.Fatalf("%v: BalanceExpr of %s = %s has the input %d", f, briefExpr(a), briefExpr(b), i)
		}
	}
	if size := numbersOfExpr(a).size; size <= 40 {
		p, e := formula.PolyOf(f, a, api.MaxInputs)
		q, g := formula.PolyOf(f, b, api.MaxInputs)
		areKnown := e == api.OK && g == api.OK
		if areKnown && !slices.EqualFunc(p, q, equalTerms) || !areKnown && size <= 12 {
			t.Fatalf("%v: BalanceExpr of %s = %s has another polynomial: errors %v, %v", f, briefExpr(a), briefExpr(b), e, g)
		}
	}
	// In a great field that contains f, different polynomials differ at nearly all points.
	if f == two {
		f = binary
	}
	random := source(9)
	for range 5 {
		at := random.elements(f, api.MaxInputs)
		v, e := formula.EvalExpr(f, a, at)
		w, g := formula.EvalExpr(f, b, at)
		if e != api.OK || g != api.OK || v != w {
			t.Fatalf("%v: BalanceExpr of %s = %s: values %d, %d; errors %v, %v", f, briefExpr(a), briefExpr(b), v, w, e, g)
		}
	}
}

func equalTerms(a, b api.Term) bool { return a.C == b.C && slices.Equal(a.E, b.E) }

// textOf returns the text of a polynomial of an expression.
func textOf(t *testing.T, f api.Field, e api.Expr, n int) string {
	t.Helper()
	p, err := formula.PolyOf(f, e, n)
	text, g := poly.Text(f, n, p)
	if err != api.OK || g != api.OK {
		t.Fatalf("%v: the polynomial of %s: %v, %v", f, briefExpr(e), err, g)
	}
	return text
}
