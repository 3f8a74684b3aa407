package formula_test

import (
	"math"
	"reflect"
	"testing"

	"commodatum/api"
	"commodatum/formula"
)

var (
	two     = api.Field{P: 2, M: 1}
	three   = api.Field{P: 3, M: 1}
	four    = api.Field{P: 2, M: 2}
	five    = api.Field{P: 5, M: 1}
	seven   = api.Field{P: 7, M: 1}
	sixteen = api.Field{P: 2, M: 4}
	middle  = api.Field{P: 251, M: 1}
	byteSet = api.Field{P: 2, M: 8}
	prime   = api.Field{P: 65521, M: 1}
	binary  = api.Field{P: 2, M: 16}
)

// sampleFields are prime fields and fields of polynomials of all sizes.
func sampleFields() []api.Field {
	return []api.Field{two, three, four, five, seven, sixteen, middle, byteSet, prime, binary}
}

// notFields are arguments that are not valid fields.
func notFields() []api.Field {
	return []api.Field{
		{}, {P: 2}, {P: 0, M: 1}, {P: 1, M: 1}, {P: -3, M: 1}, {P: 4, M: 1}, {P: 9, M: 1}, {P: 65537, M: 1},
		{P: 2, M: 17}, {P: 2, M: -1}, {P: 3, M: 2}, {P: 3, M: 0}, {P: math.MaxInt, M: 1}, {P: 2, M: math.MinInt},
	}
}

// orderOf counts the elements of a field.
func orderOf(f api.Field) int {
	order := 1
	for range f.M {
		order *= f.P
	}
	return order
}

// The next functions make formulas.
func x(i int) api.Formula              { return api.Formula{Kind: api.FVar, N: i} }
func bit(n int) api.Formula            { return api.Formula{Kind: api.FConst, N: n} }
func not(f api.Formula) api.Formula    { return node(api.FNot, f) }
func and(f, g api.Formula) api.Formula { return node(api.FAnd, f, g) }
func or(f, g api.Formula) api.Formula  { return node(api.FOr, f, g) }
func xor(f, g api.Formula) api.Formula { return node(api.FXor, f, g) }
func node(kind int, kids ...api.Formula) api.Formula {
	return api.Formula{Kind: kind, Kids: kids}
}

// The next functions make expressions.
func in(i int) api.Expr            { return api.Expr{Kind: api.EVar, N: i} }
func number(n int) api.Expr        { return api.Expr{Kind: api.EConst, N: n} }
func sum(a, b api.Expr) api.Expr   { return exprNode(api.EAdd, a, b) }
func times(a, b api.Expr) api.Expr { return exprNode(api.EMul, a, b) }
func exprNode(kind int, kids ...api.Expr) api.Expr {
	return api.Expr{Kind: kind, Kids: kids}
}

// source is a source of numbers that only seem to be random.
type source uint64

// below returns a number from 0 to n - 1.
func (s *source) below(n int) int {
	*s = *s*6364136223846793005 + 1442695040888963407
	return int(uint64(*s) >> 33 % uint64(n))
}

// formula returns a formula with that many leaves, most of them FVar below inputs, which is positive.
func (s *source) formula(leaves, inputs int) api.Formula {
	if s.below(4) == 0 {
		return not(s.formula(leaves, inputs))
	}
	if leaves > 1 {
		left := 1 + s.below(leaves-1)
		return node(api.FAnd+s.below(3), s.formula(left, inputs), s.formula(leaves-left, inputs))
	}
	if s.below(6) == 0 {
		return bit(s.below(2))
	}
	return x(s.below(inputs))
}

// expr returns an expression with that many leaves, most of them EVar below inputs, if there are any.
func (s *source) expr(f api.Field, leaves, inputs int) api.Expr {
	if leaves > 1 {
		left := 1 + s.below(leaves-1)
		return exprNode(api.EAdd+s.below(2), s.expr(f, left, inputs), s.expr(f, leaves-left, inputs))
	}
	if inputs == 0 || s.below(4) == 0 {
		return number(s.below(orderOf(f)))
	}
	return in(s.below(inputs))
}

// bits returns n Boolean values.
func (s *source) bits(n int) []bool {
	list := make([]bool, n)
	for i := range list {
		list[i] = s.below(2) == 1
	}
	return list
}

// elements returns n elements of the field.
func (s *source) elements(f api.Field, n int) []int {
	list := make([]int, n)
	for i := range list {
		list[i] = s.below(orderOf(f))
	}
	return list
}

// allFormulas returns all formulas with just that many nodes, whose leaves are among these.
func allFormulas(nodes int, leaves ...api.Formula) []api.Formula {
	if nodes < 1 {
		return nil
	}
	if nodes == 1 {
		return leaves
	}
	var all []api.Formula
	for _, f := range allFormulas(nodes-1, leaves...) {
		all = append(all, not(f))
	}
	for left := 1; left < nodes-1; left++ {
		for _, f := range allFormulas(left, leaves...) {
			for _, g := range allFormulas(nodes-1-left, leaves...) {
				all = append(all, and(f, g), or(f, g), xor(f, g))
			}
		}
	}
	return all
}

// smallFormulas returns all formulas of at most 5 nodes with 2 inputs and the constants.
func smallFormulas() []api.Formula {
	var all []api.Formula
	for nodes := 1; nodes <= 5; nodes++ {
		all = append(all, allFormulas(nodes, x(0), x(1), bit(0), bit(1))...)
	}
	return all
}

// someFormulas returns random formulas of all sizes.
func someFormulas(seed source) []api.Formula {
	var all []api.Formula
	for _, leaves := range []int{1, 2, 3, 5, 8, 12, 20, 50, 200} {
		for _, inputs := range []int{1, 2, 3, 5, 12, api.MaxInputs} {
			for range 4 {
				all = append(all, seed.formula(leaves, inputs))
			}
		}
	}
	return all
}

// allExprs returns all expressions with just that many leaves, which are among these.
func allExprs(count int, leaves ...api.Expr) []api.Expr {
	if count == 1 {
		return leaves
	}
	var all []api.Expr
	for left := 1; left < count; left++ {
		for _, a := range allExprs(left, leaves...) {
			for _, b := range allExprs(count-left, leaves...) {
				all = append(all, sum(a, b), times(a, b))
			}
		}
	}
	return all
}

// smallExprs returns all expressions of at most 3 leaves with 2 inputs and up to three constants.
func smallExprs(f api.Field) []api.Expr {
	leaves := []api.Expr{in(0), in(1), number(0), number(1)}
	if orderOf(f) > 2 {
		leaves = append(leaves, number(orderOf(f)-1))
	}
	var all []api.Expr
	for count := 1; count <= 3; count++ {
		all = append(all, allExprs(count, leaves...)...)
	}
	return all
}

// someExprs returns random expressions of all sizes.
func someExprs(f api.Field, seed source) []api.Expr {
	var all []api.Expr
	for _, leaves := range []int{1, 2, 3, 5, 8, 12, 20} {
		for _, inputs := range []int{0, 1, 2, 3, 5, api.MaxInputs} {
			for range 2 {
				all = append(all, seed.expr(f, leaves, inputs))
			}
		}
	}
	return all
}

// balanced joins all formulas or expressions of the list, as evenly as possible.
func balanced[T any](join func(a, b T) T, list []T) T {
	if len(list) == 1 {
		return list[0]
	}
	half := len(list) / 2
	return join(balanced(join, list[:half]), balanced(join, list[half:]))
}

// repeated returns a list of that many equal formulas or expressions.
func repeated[T any](t T, count int) []T {
	list := make([]T, count)
	for i := range list {
		list[i] = t
	}
	return list
}

// nested applies wrap until a leaf is nested that deep.
func nested[T any](wrap func(T) T, leaf T, depth int) T {
	for range depth - 1 {
		leaf = wrap(leaf)
	}
	return leaf
}

// copyOf returns a copy in new memory, in which all lists without kids are nil.
func copyOf(f api.Formula) api.Formula {
	var kids []api.Formula
	for _, kid := range f.Kids {
		kids = append(kids, copyOf(kid))
	}
	f.Kids = kids
	return f
}

// copyOfExpr is copyOf for expressions.
func copyOfExpr(e api.Expr) api.Expr {
	var kids []api.Expr
	for _, kid := range e.Kids {
		kids = append(kids, copyOfExpr(kid))
	}
	e.Kids = kids
	return e
}

func equal(f, g api.Formula) bool { return reflect.DeepEqual(copyOf(f), copyOf(g)) }

func equalExpr(a, b api.Expr) bool { return reflect.DeepEqual(copyOfExpr(a), copyOfExpr(b)) }

func isZero(f api.Formula) bool { return equal(f, api.Formula{}) }

func isZeroExpr(e api.Expr) bool { return equalExpr(e, api.Expr{}) }

// tableOf, textOf, arith and so on call the functions under test, and fail where these return an error.
func tableOf(t *testing.T, f api.Formula, n int) []bool {
	t.Helper()
	table, e := formula.Table(f, n)
	if e != api.OK || len(table) != 1<<n {
		t.Fatalf("Table(%s, %d) = %d values, %v", brief(f), n, len(table), e)
	}
	return table
}

func eval(t *testing.T, f api.Formula, at []bool) bool {
	t.Helper()
	value, e := formula.Eval(f, at)
	if e != api.OK {
		t.Fatalf("Eval(%s, %v) = %v, %v", brief(f), at, value, e)
	}
	return value
}

func evalExpr(t *testing.T, f api.Field, a api.Expr, at []int) int {
	t.Helper()
	value, e := formula.EvalExpr(f, a, at)
	if e != api.OK {
		t.Fatalf("%v: EvalExpr(%s, %v) = %v, %v", f, briefExpr(a), at, value, e)
	}
	return value
}

func parse(t *testing.T, s string) api.Formula {
	t.Helper()
	f, e := formula.Parse(s)
	if e != api.OK {
		t.Fatalf("Parse(%.60q) = %v", s, e)
	}
	return f
}

// brief returns the beginning of the text, as the whole of it helps nobody.
func brief(f api.Formula) string { return shortened(writeFormula(f)) }

func briefExpr(e api.Expr) string { return shortened(writeExpr(e)) }

func shortened(s string) string {
	if len(s) > 200 {
		return s[:200] + ".."
	}
	return s
}
