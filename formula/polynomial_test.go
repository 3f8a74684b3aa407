package formula_test

import (
	"math"
	"reflect"
	"testing"

	"commodatum/api"
	"commodatum/field"
	"commodatum/formula"
	"commodatum/poly"
)

// polyOf returns the polynomial, which must be valid.
func polyOf(t *testing.T, f api.Field, e api.Expr, n int) api.Poly {
	t.Helper()
	p, err := formula.PolyOf(f, e, n)
	if err != api.OK || !poly.Valid(f, n, p) {
		t.Fatalf("%v: PolyOf(%s, %d) = %d terms, %v", f, briefExpr(e), n, len(p), err)
	}
	return p
}

func equalPolys(p, q api.Poly) bool {
	return len(p) == 0 && len(q) == 0 || reflect.DeepEqual(p, q)
}

// wantPolyError fails unless PolyOf returns this error and nothing else.
func wantPolyError(t *testing.T, what string, f api.Field, e api.Expr, n int, wanted api.Errno) {
	t.Helper()
	if p, err := formula.PolyOf(f, e, n); err != wanted || len(p) != 0 {
		t.Errorf("%v, %d variables: PolyOf of %s = %d terms, %v; want error %v", f, n, what, len(p), err, wanted)
	}
}

// P5.3: the value of an expression is that of its polynomial, which does not depend on more variables.
func TestPolyOf(t *testing.T) {
	random := source(20)
	for _, f := range sampleFields() {
		for _, e := range append(smallExprs(f), someExprs(f, 21)...) {
			least := numbersOfExpr(e).inputs
			for _, n := range []int{least, least + 1 + random.below(10), api.MaxVars}[:1+random.below(3)] {
				p := polyOf(t, f, e, n)
				for _, at := range pointsOf(f, least, &random)[1:5] {
					at = append(at, random.elements(f, n-least)...)
					value, err := poly.Eval(f, n, p, at)
					if wanted := evalExpr(t, f, e, at); err != api.OK || value != wanted {
						t.Fatalf("%v: the polynomial of %s is %d, %v at %v; want %d", f, briefExpr(e), value, err, at, wanted)
					}
				}
			}
		}
	}
}

// P5.3 at all points of small fields.
func TestPolyOfEverywhere(t *testing.T) {
	random := source(22)
	for _, f := range []api.Field{two, three, four, five} {
		for range 30 {
			e := random.expr(f, 1+random.below(9), 3)
			p := polyOf(t, f, e, 3)
			for i := range 125 {
				at := []int{i % 5 % orderOf(f), i / 5 % 5 % orderOf(f), i / 25 % orderOf(f)}
				if value, err := poly.Eval(f, 3, p, at); err != api.OK || value != elementAt(f, e, at) {
					t.Fatalf("%v: the polynomial of %s is %d, %v at %v", f, briefExpr(e), value, err, at)
				}
			}
		}
	}
}

// The polynomial is the sum or the product of those of the kids, and not only one with the same values.
func TestPolyOfNodes(t *testing.T) {
	random := source(23)
	for _, f := range sampleFields() {
		for n := range 5 {
			for range 10 {
				a, b := random.expr(f, 1+random.below(6), n), random.expr(f, 1+random.below(6), n)
				p, q := polyOf(t, f, a, n), polyOf(t, f, b, n)
				total, _ := poly.Add(f, n, p, q)
				product, _ := poly.Mul(f, n, p, q)
				if got := polyOf(t, f, sum(a, b), n); !equalPolys(got, total) {
					t.Fatalf("%v: the sum of %s and %s is %v; want %v", f, briefExpr(a), briefExpr(b), got, total)
				}
				if got := polyOf(t, f, times(a, b), n); !equalPolys(got, product) {
					t.Fatalf("%v: the product of %s and %s is %v; want %v", f, briefExpr(a), briefExpr(b), got, product)
				}
			}
		}
	}
}

func TestPolyOfLeaves(t *testing.T) {
	for _, f := range sampleFields() {
		for n := range api.MaxVars + 1 {
			for i := range min(n, api.MaxInputs) {
				exponents := make([]int, n)
				exponents[i] = 1
				if p := polyOf(t, f, in(i), n); !equalPolys(p, api.Poly{{C: 1, E: exponents}}) {
					t.Errorf("%v: the polynomial of x%d in %d variables is %v", f, i, n, p)
				}
			}
			if p := polyOf(t, f, number(0), n); len(p) != 0 {
				t.Errorf("%v: the polynomial of 0 in %d variables is %v", f, n, p)
			}
			for _, c := range []int{1, orderOf(f) - 1} {
				if p := polyOf(t, f, number(c), n); !equalPolys(p, api.Poly{{C: c, E: make([]int, n)}}) {
					t.Errorf("%v: the polynomial of %d in %d variables is %v", f, c, n, p)
				}
			}
		}
	}
}

// Powers are not reduced: x^2 and x are different polynomials over GF(2), too.
func TestPolyOfTexts(t *testing.T) {
	for _, s := range []struct {
		f      api.Field
		text   string
		n      int
		wanted string
	}{
		{two, "mul(add(x0, 1), x1)", 2, "1*x1 + 1*x0*x1"},
		{two, "mul(x0, x0)", 1, "1*x0^2"},
		{two, "add(x0, x0)", 1, "0"},
		{three, "add(x0, x0)", 1, "2*x0"},
		{four, "mul(add(x0, 2), add(x0, 3))", 1, "1 + 1*x0 + 1*x0^2"},
		{five, "mul(add(x0, x2), add(x0, mul(4, x2)))", 3, "4*x2^2 + 1*x0^2"},
		{seven, "mul(3, 5)", 0, "1"},
		{seven, "add(3, 4)", 0, "0"},
	} {
		e, err := formula.ParseExpr(s.f, s.text)
		if err != api.OK {
			t.Fatalf("%v: ParseExpr(%q) = %v", s.f, s.text, err)
		}
		if text, _ := poly.Text(s.f, s.n, polyOf(t, s.f, e, s.n)); text != s.wanted {
			t.Errorf("%v: the polynomial of %s is %s", s.f, s.text, text)
		}
	}
}

func TestPolyOfErrors(t *testing.T) {
	for _, f := range sampleFields() {
		for _, e := range append(someExprs(f, 24), in(0), in(15), number(0), times(number(0), in(2))) {
			least := numbersOfExpr(e).inputs
			for _, n := range []int{least - 1, -1, -2, api.MaxVars + 1, 1 << 32, 1<<32 + 16, math.MinInt, math.MaxInt} {
				wantPolyError(t, briefExpr(e), f, e, n, api.ErrArg)
			}
			for n := range least {
				wantPolyError(t, briefExpr(e), f, e, n, api.ErrArg)
			}
		}
	}
}

// powers returns an expression for 1 + x + x^2 and so on: that many terms. A sum of many terms is the first half of
// them and x^k times the second one.
func powers(input, terms int) api.Expr {
	if terms == 1 {
		return number(1)
	}
	half := terms / 2
	return sum(powers(input, half), times(balanced(times, repeated(in(input), half)), powers(input, terms-half)))
}

// box returns an expression whose polynomial has the products of these numbers of powers of the inputs from first on.
func box(first int, lengths ...int) api.Expr {
	e := number(1)
	for i, terms := range lengths {
		e = times(e, powers(first+i, terms))
	}
	return e
}

func TestPolyOfTermsLimit(t *testing.T) {
	full := box(0, 5, 5, 5, 5, 2, 2, 2, 2, 2) // 20000 terms
	for _, f := range []api.Field{two, prime, byteSet} {
		for _, n := range []int{10, api.MaxVars} {
			p := polyOf(t, f, full, n)
			if len(p) != api.MaxTerms {
				t.Fatalf("%v: %d terms", f, len(p))
			}
			for i, u := range p {
				if u.C != 1 || max(u.E[0], u.E[1], u.E[2], u.E[3]) > 4 || max(u.E[4], u.E[5], u.E[6], u.E[7], u.E[8]) > 1 {
					t.Fatalf("%v: term %d is %v", f, i, u)
				}
			}
			wantPolyError(t, "20001 terms", f, sum(full, in(9)), n, api.ErrSize)
			wantPolyError(t, "20001 terms", f, sum(in(9), full), n, api.ErrSize)
			wantPolyError(t, "30000 terms", f, box(0, 5, 5, 5, 5, 2, 2, 2, 2, 3), n, api.ErrSize)
			wantPolyError(t, "40000 terms", f, times(full, sum(in(9), number(1))), n, api.ErrSize)
		}
	}
}

// Every expression in an expression must have a valid polynomial, even if it does not matter.
func TestPolyOfInside(t *testing.T) {
	full := box(0, 5, 5, 5, 5, 2, 2, 2, 2, 2)
	great := sum(full, in(9))
	for _, e := range []api.Expr{
		times(great, number(0)), times(number(0), great), sum(great, great), sum(in(9), great),
		times(in(0), sum(number(1), times(number(0), great))),
	} {
		wantPolyError(t, "0 times 20001 terms, or twice 20001 terms", two, e, 10, api.ErrSize)
	}
	if p := polyOf(t, two, sum(full, full), 10); len(p) != 0 {
		t.Errorf("twice 20000 terms: %d", len(p))
	}
	if p := polyOf(t, two, times(full, number(0)), 10); len(p) != 0 {
		t.Errorf("0 times 20000 terms: %d", len(p))
	}
	// 1 is one of the 20000 terms, and cancels out.
	if p := polyOf(t, two, sum(sum(number(1), full), in(9)), 10); len(p) != api.MaxTerms {
		t.Errorf("20000 - 1 + 1 terms: %d", len(p))
	}
}

// The greatest degree that MaxNodes nodes permit.
func TestPolyOfDegree(t *testing.T) {
	for _, f := range []api.Field{two, prime} {
		p := polyOf(t, f, balanced(times, repeated(in(0), 10000)), 1)
		if !equalPolys(p, api.Poly{{C: 1, E: []int{10000}}}) {
			t.Errorf("%v: x^10000 is %v", f, p)
		}
	}
	if p := polyOf(t, prime, balanced(sum, repeated(in(0), 10000)), 1); !equalPolys(p, api.Poly{{C: 10000, E: []int{1}}}) {
		t.Errorf("10000 x is %v", p)
	}
}

// Products of more than 1000000 pairs of terms are polynomials, too, if the limits permit them.
func TestPolyOfPairs(t *testing.T) {
	for _, power := range []int{999, 1001, 2048, 2500} {
		p := polyOf(t, prime, balanced(times, repeated(sum(in(1), number(1)), power)), 2)
		if len(p) != power+1 {
			t.Fatalf("(1 + x)^%d has %d terms", power, len(p))
		}
		c := 1
		for k, u := range p {
			if u.C != c || u.E[0] != 0 || u.E[1] != k {
				t.Fatalf("(1 + x)^%d: term %d is %v; want the coefficient %d", power, k, u, c)
			}
			back, _ := field.Inverse(prime, k+1)
			c, _ = field.Mul(prime, c*(power-k)%prime.P, back)
		}
	}
	wantPolyError(t, "1001 times 20 terms", two, times(powers(0, 1001), powers(1, 20)), 2, api.ErrSize)
	first, second := box(0, 2, 2, 2, 2, 2, 2, 2, 2, 2, 2, 2), box(11, 5, 5, 5, 5)
	wantPolyError(t, "2048 times 625 terms", three, times(first, second), 15, api.ErrSize)
	wantPolyError(t, "625 times 2048 terms", three, times(second, first), 15, api.ErrSize)
}

// binomials returns the product of the sums of 1 and c times the power e of each of the inputs from first on.
func binomials(first, count, c, e int) api.Expr {
	factors := make([]api.Expr, count)
	for i := range factors {
		factors[i] = sum(number(1), times(number(c), balanced(times, repeated(in(first+i), e))))
	}
	return balanced(times, factors)
}

// wantSamePoly fails unless both expressions have the same polynomial.
func wantSamePoly(t *testing.T, what string, f api.Field, a, b api.Expr, n, terms int) {
	t.Helper()
	p, q := polyOf(t, f, a, n), polyOf(t, f, b, n)
	if !equalPolys(p, q) || len(p) != terms {
		t.Errorf("%v: the polynomial of %s has %d terms; want %d", f, what, len(p), len(q))
	}
}

// Most of more than 1000000 pairs of terms cancel out, over GF(2): in a square, and where both factors differ.
func TestPolyOfCancelsInPairs(t *testing.T) {
	// p has 1024 terms, and is the sum of u(x) and x9 u(x^3).
	p := sum(binomials(0, 9, 1, 1), times(in(9), binomials(0, 9, 1, 3)))
	squares := sum(binomials(0, 9, 1, 2), times(times(in(9), in(9)), binomials(0, 9, 1, 6)))
	wantSamePoly(t, "p^2", two, times(p, p), squares, 10, 1024)
	wantSamePoly(t, "p^2", two, times(p, p), squares, api.MaxVars, 1024)
	wantSamePoly(t, "p (p + x10)", two, times(p, sum(p, in(10))), sum(squares, times(in(10), p)), 11, 2048)
	wantSamePoly(t, "(p + x10) p + x11", two, sum(times(sum(in(10), p), p), in(11)), sum(sum(squares, in(11)), times(p, in(10))), 12, 2049)
	wantSamePoly(t, "p^2 + p^2", two, sum(times(p, p), times(p, p)), number(0), 10, 0)
	wantSamePoly(t, "p (3 p + x10)", four, times(p, sum(times(number(3), p), in(10))), sum(times(number(3), squares), times(in(10), p)), 11, 2048)
}

// The same over other fields: products of 1 + x and 1 - x.
func TestPolyOfCancelsInDifferences(t *testing.T) {
	for _, f := range []api.Field{three, prime} {
		p, q, product := binomials(0, 10, 1, 1), binomials(0, 10, f.P-1, 1), binomials(0, 10, f.P-1, 2)
		wantSamePoly(t, "(1 + x) (1 - x)", f, times(p, q), product, 10, 1024)
		p = times(p, sum(in(10), in(11)))
		wantSamePoly(t, "(x10 + x11) (1 + x) (1 - x) + x12", f, sum(times(p, q), in(12)), sum(in(12), times(sum(in(10), in(11)), product)), 13, 2049)
	}
	p := binomials(0, 9, 1, 1)
	wantSamePoly(t, "(p p) p", three, times(times(p, p), p), binomials(0, 9, 1, 3), 9, 512)
}

// Most pairs cancel out, but what is left may be too much: 256 terms times 78 or 80 powers of x8.
func TestPolyOfCancelsTooLittle(t *testing.T) {
	for _, f := range []api.Field{two, three, prime} {
		p, q, product := binomials(0, 8, 1, 1), binomials(0, 8, f.P-1, 1), binomials(0, 8, f.P-1, 2)
		both := func(count int) (api.Expr, api.Expr) {
			return times(p, powers(8, count)), times(q, sum(number(1), balanced(times, repeated(in(8), count))))
		}
		first, second := both(39)
		wantSamePoly(t, "19968 terms", f, times(first, second), times(product, powers(8, 78)), 9, 19968)
		first, second = both(40)
		wantPolyError(t, "20480 terms", f, times(first, second), 9, api.ErrSize)
		wantPolyError(t, "20480 terms in a sum", f, sum(in(7), times(second, first)), 9, api.ErrSize)
		wantPolyError(t, "20480 terms times 0", f, times(number(0), times(second, first)), 9, api.ErrSize)
	}
}
