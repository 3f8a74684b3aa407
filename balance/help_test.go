package balance_test

import (
	"fmt"
	"math"
	"reflect"
	"slices"

	"commodatum/api"
	"commodatum/formula"
)

var (
	two     = api.Field{P: 2, M: 1}
	three   = api.Field{P: 3, M: 1}
	four    = api.Field{P: 2, M: 2}
	seven   = api.Field{P: 7, M: 1}
	sixteen = api.Field{P: 2, M: 4}
	prime   = api.Field{P: 65521, M: 1}
	binary  = api.Field{P: 2, M: 16}
)

// sampleFields are prime fields and fields of polynomials of all sizes.
func sampleFields() []api.Field {
	return []api.Field{two, three, four, seven, sixteen, prime, binary}
}

// notFields are arguments that are not valid fields.
func notFields() []api.Field {
	return []api.Field{
		{}, {P: 2}, {P: 1, M: 1}, {P: -3, M: 1}, {P: 4, M: 1}, {P: 9, M: 1}, {P: 65537, M: 1},
		{P: 2, M: 17}, {P: 2, M: -1}, {P: 3, M: 2}, {P: math.MaxInt, M: 1}, {P: 2, M: math.MinInt},
	}
}

// orderOf counts the elements of a field.
func orderOf(f api.Field) int {
	order := 1
	for range f.M {
		order *= f.P
	}
	return order
}

// The next functions make formulas.
func x(i int) api.Formula              { return api.Formula{Kind: api.FVar, N: i} }
func bit(n int) api.Formula            { return api.Formula{Kind: api.FConst, N: n} }
func not(f api.Formula) api.Formula    { return node(api.FNot, f) }
func and(f, g api.Formula) api.Formula { return node(api.FAnd, f, g) }
func or(f, g api.Formula) api.Formula  { return node(api.FOr, f, g) }
func xor(f, g api.Formula) api.Formula { return node(api.FXor, f, g) }
func node(kind int, kids ...api.Formula) api.Formula {
	return api.Formula{Kind: kind, Kids: kids}
}

// The next functions make expressions.
func in(i int) api.Expr            { return api.Expr{Kind: api.EVar, N: i} }
func number(n int) api.Expr        { return api.Expr{Kind: api.EConst, N: n} }
func sum(a, b api.Expr) api.Expr   { return exprNode(api.EAdd, a, b) }
func times(a, b api.Expr) api.Expr { return exprNode(api.EMul, a, b) }
func exprNode(kind int, kids ...api.Expr) api.Expr {
	return api.Expr{Kind: kind, Kids: kids}
}

// source is a source of numbers that only seem to be random.
type source uint64

// below returns a number from 0 to n - 1.
func (s *source) below(n int) int {
	*s = *s*6364136223846793005 + 1442695040888963407
	return int(uint64(*s) >> 33 % uint64(n))
}

// style says what random formulas look like.
type style struct {
	inputs    int
	kinds     []int // of the nodes with two kids
	negations int   // of 100 nodes
	constants int   // of 100 leaves
	skew      int   // 1 makes formulas of all forms, great numbers make chains
}

// styles are some styles without and with FXor.
func styles() []style {
	var list []style
	for _, kinds := range [][]int{{api.FAnd, api.FOr}, {api.FXor}, {api.FAnd, api.FXor}, {api.FOr, api.FXor}, {api.FAnd, api.FOr, api.FXor}} {
		for _, skew := range []int{1, 5, 25, 1000} {
			list = append(list, style{12, kinds, 25, 0, skew}, style{api.MaxInputs, kinds, 0, 10, skew}, style{3, kinds, 50, 30, skew})
		}
	}
	return list
}

// formula returns a formula with that many leaves.
func (s *source) formula(leaves int, y style) api.Formula {
	f := x(s.below(y.inputs))
	if leaves > 1 {
		left := s.share(leaves, y.skew)
		f = node(y.kinds[s.below(len(y.kinds))], s.formula(left, y), s.formula(leaves-left, y))
	} else if s.below(100) < y.constants {
		f = bit(s.below(2))
	}
	for s.below(100) < y.negations {
		f = not(f)
	}
	return f
}

// expr returns an expression with that many leaves, some of which are the numbers 0 and 1 and any other number.
func (s *source) expr(f api.Field, leaves, inputs, skew int) api.Expr {
	if leaves > 1 {
		left := s.share(leaves, skew)
		return exprNode(api.EAdd+s.below(2), s.expr(f, left, inputs, skew), s.expr(f, leaves-left, inputs, skew))
	}
	if s.below(5) > 0 {
		return in(s.below(inputs))
	}
	return number([]int{0, 1, s.below(orderOf(f))}[s.below(3)])
}

// share divides the leaves of a node: it returns how many the first kid has.
func (s *source) share(leaves, skew int) int {
	left := 1 + s.below(max(1, (leaves-1)/skew))
	if s.below(2) == 0 {
		left = leaves - left
	}
	return left
}

// elements returns n elements of the field.
func (s *source) elements(f api.Field, n int) []int {
	list := make([]int, n)
	for i := range list {
		list[i] = s.below(orderOf(f))
	}
	return list
}

// someFormulas returns random formulas of all sizes up to this one.
func someFormulas(seed source, size int) []api.Formula {
	var all []api.Formula
	for _, leaves := range []int{1, 2, 3, 4, 5, 7, 9, 12, 17, 30, 60, 100, 300, 1000, 4000} {
		for _, y := range styles() {
			if f := seed.formula(leaves, y); leaves <= size && formula.Valid(f) { // it may be nested too deep
				all = append(all, f)
			}
		}
	}
	return all
}

// allFormulas returns all formulas with just that many nodes, whose leaves are among these.
func allFormulas(nodes int, leaves ...api.Formula) []api.Formula {
	if nodes < 1 {
		return nil
	}
	if nodes == 1 {
		return leaves
	}
	var all []api.Formula
	for _, f := range allFormulas(nodes-1, leaves...) {
		all = append(all, not(f))
	}
	for left := 1; left < nodes-1; left++ {
		for _, f := range allFormulas(left, leaves...) {
			for _, g := range allFormulas(nodes-1-left, leaves...) {
				all = append(all, and(f, g), or(f, g), xor(f, g))
			}
		}
	}
	return all
}

// smallFormulas returns all formulas of at most 5 nodes with 2 inputs and the constants.
func smallFormulas() []api.Formula {
	var all []api.Formula
	for nodes := 1; nodes <= 5; nodes++ {
		all = append(all, allFormulas(nodes, x(0), x(1), bit(0), bit(1))...)
	}
	return all
}

// allExprs returns all expressions with just that many leaves, which are among these.
func allExprs(count int, leaves ...api.Expr) []api.Expr {
	if count == 1 {
		return leaves
	}
	var all []api.Expr
	for left := 1; left < count; left++ {
		for _, a := range allExprs(left, leaves...) {
			for _, b := range allExprs(count-left, leaves...) {
				all = append(all, sum(a, b), times(a, b))
			}
		}
	}
	return all
}

// balanced joins all formulas or expressions of the list, as evenly as possible.
func balanced[T any](join func(a, b T) T, list []T) T {
	if len(list) == 1 {
		return list[0]
	}
	half := len(list) / 2
	return join(balanced(join, list[:half]), balanced(join, list[half:]))
}

// repeated returns a list of that many equal formulas or expressions.
func repeated[T any](t T, count int) []T {
	list := make([]T, count)
	for i := range list {
		list[i] = t
	}
	return list
}

// nested applies wrap that often.
func nested[T any](wrap func(T) T, t T, times int) T {
	for range times {
		t = wrap(t)
	}
	return t
}

// chain returns a formula of that size in which each node has a leaf as a kid, the first or the second one by turns.
// The kinds of the nodes take turns, too; FNot is added where it is its turn.
func chain(size int, kinds ...int) api.Formula {
	f, turn := x(0), 0
	for i := 1; i < size; i++ {
		for ; kinds[turn%len(kinds)] == api.FNot; turn++ {
			f = not(f)
		}
		kids := []api.Formula{f, x(i % api.MaxInputs)}
		if i%3 == 0 {
			slices.Reverse(kids)
		}
		f = node(kinds[turn%len(kinds)], kids...)
		turn++
	}
	return f
}

// exprChain is chain for expressions, with some numbers.
func exprChain(f api.Field, size int, kinds ...int) api.Expr {
	e := in(0)
	for i := 1; i < size; i++ {
		leaf := in(i % api.MaxInputs)
		if i%7 == 6 {
			leaf = number(i % orderOf(f))
		}
		kids := []api.Expr{e, leaf}
		if i%3 == 0 {
			slices.Reverse(kids)
		}
		e = exprNode(kinds[i%len(kinds)], kids...)
	}
	return e
}

// turns are kinds that take turns in chains, without and with FXor.
func turns() [][]int {
	return [][]int{
		{api.FAnd}, {api.FOr}, {api.FAnd, api.FOr}, {api.FOr, api.FOr, api.FAnd}, {api.FNot, api.FAnd}, {api.FOr, api.FNot},
		{api.FAnd, api.FNot, api.FOr, api.FNot}, {api.FAnd, api.FOr, api.FNot}, {api.FNot, api.FNot, api.FNot, api.FAnd, api.FOr},
		{api.FXor}, {api.FXor, api.FNot}, {api.FXor, api.FAnd}, {api.FXor, api.FOr}, {api.FNot, api.FXor, api.FAnd},
		{api.FXor, api.FAnd, api.FOr}, {api.FXor, api.FXor, api.FAnd, api.FNot, api.FOr}, {api.FAnd, api.FAnd, api.FAnd, api.FXor},
	}
}

// copyOf returns a copy in new memory, in which all lists without kids are nil.
func copyOf(f api.Formula) api.Formula {
	var kids []api.Formula
	for _, kid := range f.Kids {
		kids = append(kids, copyOf(kid))
	}
	f.Kids = kids
	return f
}

// copyOfExpr is copyOf for expressions.
func copyOfExpr(e api.Expr) api.Expr {
	var kids []api.Expr
	for _, kid := range e.Kids {
		kids = append(kids, copyOfExpr(kid))
	}
	e.Kids = kids
	return e
}

func equal(f, g api.Formula) bool { return reflect.DeepEqual(copyOf(f), copyOf(g)) }

func equalExpr(a, b api.Expr) bool { return reflect.DeepEqual(copyOfExpr(a), copyOfExpr(b)) }

func isZero(f api.Formula) bool { return equal(f, api.Formula{}) }

func isZeroExpr(e api.Expr) bool { return equalExpr(e, api.Expr{}) }

// brief returns the beginning of the text, as the whole of it helps nobody.
func brief(f api.Formula) string { return shortened(writeFormula(f)) }

func briefExpr(e api.Expr) string { return shortened(writeExpr(e)) }

func shortened(s string) string {
	if len(s) > 200 {
		return s[:200] + ".."
	}
	return s
}

// writeFormula returns the textual form, also of formulas that are not valid.
func writeFormula(f api.Formula) string {
	switch {
	case f.Kind == api.FVar && len(f.Kids) == 0:
		return fmt.Sprint("x", f.N)
	case f.Kind == api.FConst && len(f.Kids) == 0:
		return fmt.Sprint(f.N)
	case f.Kind == api.FNot && len(f.Kids) == 1:
		return "not(" + writeFormula(f.Kids[0]) + ")"
	case f.Kind > api.FNot && f.Kind < api.FKinds && len(f.Kids) == 2:
		name := []string{"and", "or", "xor"}[f.Kind-api.FAnd]
		return name + "(" + writeFormula(f.Kids[0]) + ", " + writeFormula(f.Kids[1]) + ")"
	}
	return fmt.Sprintf("kind %d with %d kids", f.Kind, len(f.Kids))
}

// writeExpr returns the textual form, also of expressions that are not valid.
func writeExpr(e api.Expr) string {
	switch {
	case e.Kind == api.EVar && len(e.Kids) == 0:
		return fmt.Sprint("x", e.N)
	case e.Kind == api.EConst && len(e.Kids) == 0:
		return fmt.Sprint(e.N)
	case e.Kind > api.EConst && e.Kind < api.EKinds && len(e.Kids) == 2:
		name := []string{"add", "mul"}[e.Kind-api.EAdd]
		return name + "(" + writeExpr(e.Kids[0]) + ", " + writeExpr(e.Kids[1]) + ")"
	}
	return fmt.Sprintf("kind %d with %d kids", e.Kind, len(e.Kids))
}
