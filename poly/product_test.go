package poly_test

import (
	"slices"
	"testing"

	"commodatum/api"
	"commodatum/field"
	"commodatum/poly"
)

// binomials returns the product of the sums of 1 and c times the power e of each of the variables from first on.
func binomials(f api.Field, n, first, count, c, e int) api.Poly {
	p := api.Poly{{C: 1, E: make([]int, n)}}
	for v := first; v < first+count; v++ {
		for _, t := range clone(p) {
			t.C, _ = field.Mul(f, t.C, c)
			t.E[v] = e
			p = append(p, t)
		}
	}
	return rising(p)
}

// minusOne returns the element whose sum with 1 is 0.
func minusOne(f api.Field) int {
	c, _ := field.Sub(f, 0, 1)
	return c
}

// Most of millions of pairs of terms cancel out: (1 + x^e) (1 - x^e) is 1 - x^(2 e), for all variables.
func TestMulDifferences(t *testing.T) {
	for _, f := range []api.Field{three, seven, prime} {
		for _, s := range []struct{ n, first, count, e int }{{11, 0, 11, 1}, {12, 1, 10, 99}, {80, 70, 10, 32767}, {13, 0, 10, 300}} {
			p, q := binomials(f, s.n, s.first, s.count, 1, s.e), binomials(f, s.n, s.first, s.count, minusOne(f), s.e)
			product, e := poly.Mul(f, s.n, p, q)
			wantPoly(t, "products of 1 - x^(2 e)", product, e, binomials(f, s.n, s.first, s.count, minusOne(f), 2*s.e))
		}
	}
}

// In characteristic 2, p (c p + 1) is c p^2 + p, and p^2 has the terms of p with all exponents doubled.
func TestMulSquares(t *testing.T) {
	for _, f := range []api.Field{two, four, binary} {
		for _, e := range []int{1, 7, 16383} {
			p, squares := binomials(f, 10, 0, 10, 1, e), binomials(f, 10, 0, 10, 1, 2*e)
			product, err := poly.Mul(f, 10, p, p)
			wantPoly(t, "p^2", product, err, squares)
			one := api.Poly{{C: 1, E: make([]int, 10)}}
			for _, c := range []int{1, field.Order(f) - 1} {
				multiple, _ := poly.Scale(f, 10, c, p)
				second, _ := poly.Add(f, 10, multiple, one)
				wanted, _ := poly.Scale(f, 10, c, squares)
				wanted, _ = poly.Add(f, 10, wanted, p)
				product, err = poly.Mul(f, 10, p, second)
				wantPoly(t, "p (c p + 1)", product, err, wanted)
				product, err = poly.Mul(f, 10, second, p)
				wantPoly(t, "(c p + 1) p", product, err, wanted)
			}
		}
	}
}

// Squares of all sorts, in all characteristics, are as the definition says.
func TestMulByItself(t *testing.T) {
	random := source(50)
	for _, f := range sampleFields() {
		for range 30 {
			n := random.below(4)
			p := random.poly(f, n, 12, 3)
			q, e := poly.Mul(f, n, p, p)
			wantPoly(t, "p^2", q, e, product(f, p, p))
		}
	}
}

// In characteristic 3, p^2 p has the terms of p with all exponents trebled: ten million pairs.
func TestMulCubes(t *testing.T) {
	p := binomials(three, 9, 0, 9, 2, 5)
	square, e := poly.Mul(three, 9, p, p)
	if e != api.OK || len(square) != 19683 {
		t.Fatalf("the square: %d terms, %v", len(square), e)
	}
	cube, e := poly.Mul(three, 9, square, p)
	wantPoly(t, "p^2 p", cube, e, binomials(three, 9, 0, 9, 2, 15))
	cube, e = poly.Mul(three, 9, p, square)
	wantPoly(t, "p p^2", cube, e, binomials(three, 9, 0, 9, 2, 15))
}

// tableProduct multiplies polynomials with exponents of at most power, in a table of all exponents of the product.
func tableProduct(f api.Field, n, power int, p, q api.Poly) api.Poly {
	size := 2*power + 1
	place := func(exponents []int) int {
		at := 0
		for _, e := range exponents {
			at = at*size + e
		}
		return at
	}
	count := 1
	for range n {
		count *= size
	}
	table := make([]int, count)
	for _, t := range p {
		for _, u := range q {
			c, _ := field.Mul(f, t.C, u.C)
			at := place(t.E) + place(u.E)
			table[at], _ = field.Add(f, table[at], c)
		}
	}
	var result api.Poly
	for at, c := range table {
		if c == 0 {
			continue
		}
		exponents := make([]int, n)
		for v := n - 1; v >= 0; v-- {
			exponents[v], at = at%size, at/size
		}
		result = append(result, api.Term{C: c, E: exponents})
	}
	return result
}

// Great polynomials whose pairs of terms have to be added part by part, compared with the definition.
func TestMulParts(t *testing.T) {
	random := source(51)
	for i, f := range sampleFields() {
		for _, s := range []struct{ n, power int }{{1, 9000}, {2, 60}, {3, 12}, {4, 5}, {5, 3}} {
			if i > 2 && s.n%2 == 0 {
				continue
			}
			p, q := random.full(f, s.n, 900, s.power), random.full(f, s.n, 500, s.power)
			product, e := poly.Mul(f, s.n, p, q)
			wantPoly(t, "the product", product, e, tableProduct(f, s.n, s.power, p, q))
		}
	}
}

// full returns a polynomial with about that many terms, at most as many as there are.
func (s *source) full(f api.Field, n, terms, power int) api.Poly {
	p := make(api.Poly, terms)
	for i := range p {
		exponents := make([]int, n)
		for v := range exponents {
			exponents[v] = s.below(power + 1)
		}
		p[i] = api.Term{C: 1 + s.below(field.Order(f)-1), E: exponents}
	}
	return rising(p)
}

// The terms differ in a few variables only, the others have any exponents: all the same, or the greatest.
func TestMulLateVariables(t *testing.T) {
	random := source(52)
	for _, f := range []api.Field{two, three, binary} {
		for _, n := range []int{3, 4, 5, 7, 80} {
			for _, fixed := range []int{0, 1, 32767} {
				p, q := random.full(f, 2, 700, 40), random.full(f, 2, 600, 40)
				wanted := tableProduct(f, 2, 40, p, q)
				product, e := poly.Mul(f, n, late(n, p, fixed), late(n, q, fixed+1))
				wantPoly(t, "the product", product, e, late(n, wanted, 2*fixed+1))
			}
		}
	}
}

// late returns p with other variables before the last two, which are its own. All of these have the same exponent.
func late(n int, p api.Poly, fixed int) api.Poly {
	all := make(api.Poly, len(p))
	for i, t := range p {
		others := slices.Repeat([]int{fixed}, n-2)
		all[i] = api.Term{C: t.C, E: append(others, t.E...)}
	}
	return all
}

// All variables have the greatest exponents at once.
func TestMulGreatestExponents(t *testing.T) {
	for n := range api.MaxVars + 1 {
		all := func(e int) api.Poly { return api.Poly{{C: 2, E: slices.Repeat([]int{e}, n)}} }
		for _, e := range []int{0, 1, 32767, 32768, 65534, 65535} {
			product, err := poly.Mul(seven, n, all(e), all(api.MaxPower-e))
			wantPoly(t, "the greatest exponents", product, err, api.Poly{{C: 4, E: slices.Repeat([]int{api.MaxPower}, n)}})
		}
	}
}

// A product of many pairs of terms may have MaxTerms terms, when those that cancel out are removed, but not more.
func TestMulManyPairsLimit(t *testing.T) {
	for _, f := range []api.Field{three, prime} {
		// (1 - x) (1 + x + .. + x^(a - 1)) is 1 - x^a; the sums of powers of y have 100 * 100 and 59 * 113 powers in all.
		c := calculator{t, f, 2}
		minus := api.Poly{term(1, 0, 0), term(minusOne(f), 1, 0)}
		first, second := c.mul(minus, row(2, 1, 1, 100, 0, 1)), c.mul(row(2, 0, 1, 150, 0, 1), row(2, 1, 1, 100, 0, 100))
		product, e := poly.Mul(f, 2, first, second)
		wantPoly(t, "20000 terms", product, e, append(rowAt(0, 1, 10000), rowAt(150, minusOne(f), 10000)...))
		// (1 - x^80)^2 has 3 terms.
		sum := row(2, 0, 1, 80, 0, 1)
		first, second = c.mul(c.mul(minus, minus), row(2, 1, 1, 59, 0, 1)), c.mul(c.mul(sum, sum), row(2, 1, 1, 113, 0, 59))
		product, e = poly.Mul(f, 2, first, second)
		wantSize(t, "20001 terms", product, e)
		product, e = poly.Mul(f, 2, second, first)
		wantSize(t, "20001 terms", product, e)
	}
}
