package formula_test

import (
	"fmt"
	"math"
	"slices"
	"testing"

	"commodatum/api"
	"commodatum/formula"
)

// outcome is what a call returned: a text that shows all of it, whether it is zero, and the error.
type outcome struct {
	text string
	zero bool
	e    api.Errno
}

// formulaCall is a function with all of its arguments but for a formula.
type formulaCall struct {
	name string
	run  func(g api.Formula) outcome
}

// formulaCalls are all functions of a formula that return errors, with all sorts of other arguments.
func formulaCalls() []formulaCall {
	calls := []formulaCall{{"Text", func(g api.Formula) outcome {
		text, e := formula.Text(g)
		return outcome{text, text == "", e}
	}}}
	for _, at := range [][]bool{nil, {}, {true}, repeated(false, 15), repeated(true, 16), repeated(true, 1000)} {
		calls = append(calls, formulaCall{fmt.Sprintf("Eval with %d values", len(at)), func(g api.Formula) outcome {
			value, e := formula.Eval(g, at)
			return outcome{fmt.Sprint(value), !value, e}
		}})
	}
	for _, n := range []int{math.MinInt, -1, 0, 1, 2, 12, 13, 16, math.MaxInt} {
		calls = append(calls, formulaCall{fmt.Sprintf("Table for %d", n), func(g api.Formula) outcome {
			table, e := formula.Table(g, n)
			return outcome{fmt.Sprint(table), len(table) == 0, e}
		}})
	}
	for _, f := range append(notFields(), two, prime) {
		calls = append(calls, formulaCall{fmt.Sprintf("Arith over %v", f), func(g api.Formula) outcome {
			a, e := formula.Arith(f, g)
			return outcome{fmt.Sprint(a), isZeroExpr(a), e}
		}})
	}
	return calls
}

// exprCall is a function with all of its arguments but for a field and an expression.
type exprCall struct {
	name string
	run  func(f api.Field, a api.Expr) outcome
}

// exprCalls are all functions of an expression that return errors, with all sorts of other arguments.
func exprCalls() []exprCall {
	calls := []exprCall{{"TextExpr", func(f api.Field, a api.Expr) outcome {
		text, e := formula.TextExpr(f, a)
		return outcome{text, text == "", e}
	}}}
	for _, at := range [][]int{nil, {}, {1}, {-1}, {70000}, repeated(0, 15), repeated(1, 16), repeated(math.MinInt, 16), repeated(1, 1000)} {
		calls = append(calls, exprCall{fmt.Sprintf("EvalExpr with %d values", len(at)), func(f api.Field, a api.Expr) outcome {
			value, e := formula.EvalExpr(f, a, at)
			return outcome{fmt.Sprint(value), value == 0, e}
		}})
	}
	for _, n := range []int{math.MinInt, -1, 0, 1, 2, 16, 80, 81, math.MaxInt} {
		calls = append(calls, exprCall{fmt.Sprintf("PolyOf for %d", n), func(f api.Field, a api.Expr) outcome {
			p, e := formula.PolyOf(f, a, n)
			return outcome{fmt.Sprint(p), len(p) == 0, e}
		}})
	}
	return calls
}

// R2 and R3: a formula that is not valid is reported before everything else.
func TestFormulaErrForm(t *testing.T) {
	for name, bad := range badFormulas() {
		for _, c := range formulaCalls() {
			for _, g := range []api.Formula{bad, not(bad), or(x(0), bad)} {
				if got := c.run(g); got.e != api.ErrForm || !got.zero {
					t.Errorf("%s of %s = %v; want ErrForm", c.name, name, got)
				}
			}
		}
	}
}

func TestExprErrForm(t *testing.T) {
	for _, f := range sampleFields() {
		for name, bad := range badExprs(f) {
			for _, c := range exprCalls() {
				for _, a := range []api.Expr{bad, sum(bad, in(0)), times(number(0), bad)} {
					if got := c.run(f, a); got.e != api.ErrForm || !got.zero {
						t.Errorf("%v: %s of %s = %v; want ErrForm", f, c.name, name, got)
					}
				}
			}
		}
	}
}

// A field that is not valid is reported, too, whatever the expression, the formula or the text is.
func TestFieldErrForm(t *testing.T) {
	for _, f := range notFields() {
		for _, c := range exprCalls() {
			for _, a := range []api.Expr{in(0), number(0), number(1), sum(in(0), number(1)), exprNode(7), number(-1)} {
				if got := c.run(f, a); got.e != api.ErrForm || !got.zero {
					t.Errorf("%v: %s of %s = %v; want ErrForm", f, c.name, briefExpr(a), got)
				}
			}
		}
		for _, s := range []string{"", "x0", "0", "1", "add(x0, 1)", "x16", "and(x0, 1)", string(make([]byte, 50000))} {
			if a, e := formula.ParseExpr(f, s); e != api.ErrForm || !isZeroExpr(a) {
				t.Errorf("%v: ParseExpr(%.20q) = %s, %v", f, s, briefExpr(a), e)
			}
		}
		for _, g := range append(smallFormulas()[:100], nested(andOnTheLeft, x(0), api.MaxDepth)) {
			if a, e := formula.Arith(f, g); e != api.ErrForm || !isZeroExpr(a) {
				t.Errorf("%v: Arith(%s) = %s, %v", f, brief(g), briefExpr(a), e)
			}
		}
	}
}

// R2: ErrArg comes before ErrSize.
func TestErrArgFirst(t *testing.T) {
	great := times(box(0, 5, 5, 5, 5, 2, 2, 2, 2, 2), powers(9, 2))
	wantPolyError(t, "40000 terms", two, great, 10, api.ErrSize)
	wantPolyError(t, "40000 terms", two, great, 9, api.ErrArg)
	wantPolyError(t, "40000 terms", two, great, 81, api.ErrArg)
}

// R5: no call changes its arguments.
func TestArgumentsUnchanged(t *testing.T) {
	for _, g := range append(someFormulas(40), smallFormulas()[:200]...) {
		old, at := copyOf(g), repeated(true, 16)
		for _, c := range formulaCalls() {
			c.run(g)
		}
		formula.Valid(g)
		formula.Inputs(g)
		formula.Size(g)
		formula.Depth(g)
		formula.Eval(g, at)
		if !equal(g, old) || !slices.Equal(at, repeated(true, 16)) {
			t.Fatalf("%s was %s", brief(g), brief(old))
		}
	}
	for _, f := range []api.Field{two, four, prime} {
		for _, a := range append(someExprs(f, 41), smallExprs(f)[:200]...) {
			old, at := copyOfExpr(a), repeated(1, 16)
			for _, c := range exprCalls() {
				c.run(f, a)
			}
			formula.ValidExpr(f, a)
			formula.InputsExpr(f, a)
			formula.SizeExpr(f, a)
			formula.DepthExpr(f, a)
			formula.EvalExpr(f, a, at)
			if !equalExpr(a, old) || !slices.Equal(at, repeated(1, 16)) {
				t.Fatalf("%s was %s", briefExpr(a), briefExpr(old))
			}
		}
	}
}

// memory is where slices have their elements, also those behind the end of the slices.
type memory map[any]bool

// addFormula adds the lists of kids, and fails if some of their memory is met again.
func (m memory) addFormula(t *testing.T, f api.Formula) {
	t.Helper()
	room := f.Kids[:cap(f.Kids)]
	for i := range room {
		m.add(t, &room[i])
	}
	for _, kid := range f.Kids {
		m.addFormula(t, kid)
	}
}

// addExpr is addFormula for expressions.
func (m memory) addExpr(t *testing.T, a api.Expr) {
	t.Helper()
	room := a.Kids[:cap(a.Kids)]
	for i := range room {
		m.add(t, &room[i])
	}
	for _, kid := range a.Kids {
		m.addExpr(t, kid)
	}
}

// addPoly adds the lists of the polynomial.
func (m memory) addPoly(t *testing.T, p api.Poly) {
	t.Helper()
	terms := p[:cap(p)]
	for i := range terms {
		m.add(t, &terms[i])
		exponents := terms[i].E[:cap(terms[i].E)]
		for v := range exponents {
			m.add(t, &exponents[v])
		}
	}
}

func (m memory) add(t *testing.T, place any) {
	t.Helper()
	if m[place] {
		t.Fatal("memory is shared")
	}
	m[place] = true
}

// R5: no result shares memory with an argument, with another result, or with itself.
func TestMemoryOfFormulas(t *testing.T) {
	random := source(42)
	for leaves := 1; leaves < 40; leaves++ {
		m := memory{}
		g := random.formula(leaves, 5)
		m.addFormula(t, g)
		for range 2 {
			m.addFormula(t, parse(t, writeFormula(g)))
			table := tableOf(t, g, 5)
			for i := range table[:cap(table)] {
				m.add(t, &table[:cap(table)][i])
			}
			for _, f := range []api.Field{two, three, four, prime} {
				m.addExpr(t, arith(t, f, g))
			}
		}
	}
}

func TestMemoryOfExprs(t *testing.T) {
	random := source(43)
	for _, f := range []api.Field{two, three, sixteen, prime} {
		for leaves := 1; leaves < 16; leaves++ {
			m := memory{}
			a := random.expr(f, leaves, 3)
			m.addExpr(t, a)
			for range 2 {
				again, e := formula.ParseExpr(f, writeExpr(a))
				if e != api.OK {
					t.Fatalf("%v: ParseExpr(%s) = %v", f, briefExpr(a), e)
				}
				m.addExpr(t, again)
				m.addPoly(t, polyOf(t, f, a, 3))
				m.addPoly(t, polyOf(t, f, a, 5))
			}
		}
	}
}

// R4: it does not matter whether what is empty is nil.
func TestNil(t *testing.T) {
	leaf, constant := x(1), bit(1)
	leaf.Kids, constant.Kids = []api.Formula{}, make([]api.Formula, 0, 5)
	for _, c := range formulaCalls() {
		for _, pair := range [][2]api.Formula{{leaf, x(1)}, {constant, bit(1)}, {xor(leaf, constant), xor(x(1), bit(1))}} {
			if got, wanted := c.run(pair[0]), c.run(pair[1]); got != wanted {
				t.Errorf("%s with empty lists of kids = %v; want %v", c.name, got, wanted)
			}
		}
	}
	input, value := in(1), number(1)
	input.Kids, value.Kids = []api.Expr{}, make([]api.Expr, 0, 5)
	for _, c := range exprCalls() {
		for _, pair := range [][2]api.Expr{{input, in(1)}, {value, number(1)}, {sum(input, value), sum(in(1), number(1))}} {
			if got, wanted := c.run(three, pair[0]), c.run(three, pair[1]); got != wanted {
				t.Errorf("%s with empty lists of kids = %v; want %v", c.name, got, wanted)
			}
		}
	}
}

// R1 and R6: every call ends, and has the same result whatever was called before it.
func TestRepeated(t *testing.T) {
	var all []func() outcome
	bad, badOnes := badFormulas(), badExprs(three)
	for _, c := range formulaCalls() {
		for _, g := range append(someFormulas(44)[:40], bad["2^61 - 1 nodes"], bad["a list of kids that contains it"]) {
			all = append(all, func() outcome { return c.run(g) })
		}
	}
	for _, c := range exprCalls() {
		for _, a := range append(someExprs(three, 45), badOnes["2^61 - 1 nodes"], badOnes["two kids that contain themselves"]) {
			all = append(all, func() outcome { return c.run(three, a) })
		}
	}
	for _, s := range []string{"x0", "", "and(", "or(x0, not(x1))", "add(x0, 1)", "mul(x0"} {
		all = append(all, func() outcome {
			g, e := formula.Parse(s)
			return outcome{fmt.Sprint(g), isZero(g), e}
		}, func() outcome {
			a, e := formula.ParseExpr(three, s)
			return outcome{fmt.Sprint(a), isZeroExpr(a), e}
		})
	}
	first := make([]outcome, len(all))
	for i, run := range all {
		first[i] = run()
		if first[i].e != api.OK && !first[i].zero {
			t.Fatalf("call %d = %v", i, first[i])
		}
	}
	for i := len(all) - 1; i >= 0; i-- {
		if again := all[i](); again != first[i] {
			t.Fatalf("call %d = %.200v and then %.200v", i, first[i], again)
		}
	}
}
