package poly_test

import (
	"math"
	"slices"
	"testing"

	"commodatum/api"
	"commodatum/field"
	"commodatum/poly"
)

var (
	two     = api.Field{P: 2, M: 1}
	three   = api.Field{P: 3, M: 1}
	four    = api.Field{P: 2, M: 2}
	five    = api.Field{P: 5, M: 1}
	seven   = api.Field{P: 7, M: 1}
	eight   = api.Field{P: 2, M: 3}
	prime   = api.Field{P: 65521, M: 1}
	binary  = api.Field{P: 2, M: 16}
	middle  = api.Field{P: 251, M: 1}
	byteSet = api.Field{P: 2, M: 8}
)

// sampleFields are prime fields and fields of polynomials of all sizes.
func sampleFields() []api.Field {
	return []api.Field{two, three, four, five, seven, eight, middle, byteSet, prime, binary}
}

// notFields are arguments that are not valid fields.
func notFields() []api.Field {
	return []api.Field{
		{}, {P: 2}, {P: 0, M: 1}, {P: 1, M: 1}, {P: -3, M: 1}, {P: 4, M: 1}, {P: 9, M: 1}, {P: 65537, M: 1},
		{P: 2, M: 17}, {P: 2, M: -1}, {P: 3, M: 2}, {P: 3, M: 0}, {P: math.MaxInt, M: 1}, {P: 2, M: math.MinInt},
	}
}

// badNumbers are numbers that no ring has as its number of variables.
func badNumbers() []int {
	return []int{-1, api.MaxVars + 1, 1 << 32, math.MinInt, math.MaxInt}
}

// term returns a term with these exponents.
func term(c int, exponents ...int) api.Term {
	return api.Term{C: c, E: exponents}
}

// source is a source of numbers that only seem to be random.
type source uint64

// below returns a number from 0 to n - 1.
func (s *source) below(n int) int {
	*s = *s*6364136223846793005 + 1442695040888963407
	return int(uint64(*s) >> 33 % uint64(n))
}

// poly returns a polynomial of at most that many terms, with exponents of at most power.
func (s *source) poly(f api.Field, n, terms, power int) api.Poly {
	var p api.Poly
	for range s.below(terms + 1) {
		exponents := make([]int, n)
		for v := range exponents {
			exponents[v] = s.below(power + 1)
		}
		p = append(p, api.Term{C: 1 + s.below(field.Order(f)-1), E: exponents})
	}
	return rising(p)
}

// rising sorts terms, and drops all but one of those with the same exponents.
func rising(p api.Poly) api.Poly {
	compare := func(a, b api.Term) int { return slices.Compare(a.E, b.E) }
	slices.SortFunc(p, compare)
	return slices.CompactFunc(p, func(a, b api.Term) bool { return compare(a, b) == 0 })
}

// row returns a polynomial with the powers start, start + step and so on of one of n variables.
func row(n, v, c, count, start, step int) api.Poly {
	p := make(api.Poly, count)
	for i := range p {
		p[i] = api.Term{C: c, E: make([]int, n)}
		p[i].E[v] = start + i*step
	}
	return p
}

// allPolys returns all polynomials with exponents of at most power.
func allPolys(f api.Field, n, power int) []api.Poly {
	monomials := points(power+1, n)
	slices.SortFunc(monomials, slices.Compare)
	var all []api.Poly
	for _, coefficients := range points(field.Order(f), len(monomials)) {
		var p api.Poly
		for i, c := range coefficients {
			if c != 0 {
				p = append(p, api.Term{C: c, E: slices.Clone(monomials[i])})
			}
		}
		all = append(all, p)
	}
	return all
}

// points returns all lists of n numbers from 0 to q - 1. The first number is the one that changes first.
func points(q, n int) [][]int {
	count := 1
	for range n {
		count *= q
	}
	all := make([][]int, count)
	for i := range all {
		all[i] = make([]int, n)
		for v, rest := 0, i; v < n; v, rest = v+1, rest/q {
			all[i][v] = rest % q
		}
	}
	return all
}

// clone returns a copy that shares no memory with p.
func clone(p api.Poly) api.Poly {
	q := slices.Clone(p)
	for i := range q {
		q[i].E = slices.Clone(p[i].E)
	}
	return q
}

// equal reports whether p and q have the same terms.
func equal(p, q api.Poly) bool {
	return slices.EqualFunc(p, q, func(a, b api.Term) bool { return a.C == b.C && slices.Equal(a.E, b.E) })
}

// calculator computes with the package under test, and fails where that returns an error or no valid polynomial.
type calculator struct {
	t *testing.T
	f api.Field
	n int
}

func (c calculator) valid(what string, p api.Poly, e api.Errno) api.Poly {
	c.t.Helper()
	if e != api.OK || !poly.Valid(c.f, c.n, p) {
		c.t.Fatalf("%v, %d variables: %s = %v, %v", c.f, c.n, what, brief(p), e)
	}
	return p
}

func (c calculator) add(p, q api.Poly) api.Poly {
	c.t.Helper()
	sum, e := poly.Add(c.f, c.n, p, q)
	return c.valid("Add", sum, e)
}

func (c calculator) mul(p, q api.Poly) api.Poly {
	c.t.Helper()
	product, e := poly.Mul(c.f, c.n, p, q)
	return c.valid("Mul", product, e)
}

func (c calculator) scale(a int, p api.Poly) api.Poly {
	c.t.Helper()
	multiple, e := poly.Scale(c.f, c.n, a, p)
	return c.valid("Scale", multiple, e)
}

func (c calculator) reduce(p api.Poly) api.Poly {
	c.t.Helper()
	reduced, e := poly.Reduce(c.f, c.n, p)
	return c.valid("Reduce", reduced, e)
}

// substitute replaces the variables of p, one for each polynomial of l, by polynomials in n variables.
func (c calculator) substitute(p api.Poly, l []api.Poly) api.Poly {
	c.t.Helper()
	result, e := poly.Substitute(c.f, len(l), p, c.n, l)
	return c.valid("Substitute", result, e)
}

func (c calculator) eval(p api.Poly, at []int) int {
	c.t.Helper()
	value, e := poly.Eval(c.f, c.n, p, at)
	if e != api.OK || value < 0 || value >= field.Order(c.f) {
		c.t.Fatalf("%v: Eval(%v, %v) = %d, %v", c.f, brief(p), at, value, e)
	}
	return value
}

func (c calculator) degree(p api.Poly) int {
	c.t.Helper()
	degree, e := poly.Degree(c.f, c.n, p)
	if e != api.OK {
		c.t.Fatalf("%v: Degree(%v) = %d, %v", c.f, brief(p), degree, e)
	}
	return degree
}

func (c calculator) text(p api.Poly) string {
	c.t.Helper()
	text, e := poly.Text(c.f, c.n, p)
	if e != api.OK || text == "" {
		c.t.Fatalf("%v: Text(%v) = %q, %v", c.f, brief(p), text, e)
	}
	return text
}

// addElements and the next function compute in the field.
func (c calculator) addElements(a, b int) int {
	sum, _ := field.Add(c.f, a, b)
	return sum
}

func (c calculator) mulElements(a, b int) int {
	product, _ := field.Mul(c.f, a, b)
	return product
}

// brief returns the first terms only, as texts of long polynomials help nobody.
func brief(p api.Poly) api.Poly {
	return p[:min(len(p), 10)]
}
