package poly_test

import (
	"testing"

	"commodatum/api"
	"commodatum/field"
)

// smallRing is a ring with all of its polynomials whose exponents are at most power.
type smallRing struct {
	f        api.Field
	n, power int
}

func smallRings() []smallRing {
	return []smallRing{
		{two, 0, 0}, {three, 0, 0}, {four, 0, 0}, {seven, 0, 0},
		{two, 1, 3}, {two, 2, 1}, {three, 1, 2}, {four, 1, 1}, {five, 1, 1},
	}
}

// P4.1 and P4.3: values and degrees of sums, products and multiples, for all pairs of small polynomials.
func TestSmallPairs(t *testing.T) {
	for _, r := range smallRings() {
		all := allPolys(r.f, r.n, r.power)
		for _, p := range all {
			for _, q := range all {
				checkPair(calculator{t, r.f, r.n}, p, q, points(field.Order(r.f), r.n))
			}
		}
	}
}

// checkPair compares Add and Mul with the reference, and their values with those at these points.
func checkPair(c calculator, p, q api.Poly, at [][]int) {
	c.t.Helper()
	sum, times := c.add(p, q), c.mul(p, q)
	both := newReference(c.f, p)
	both.add(1, q)
	if !equal(sum, both.poly()) || !equal(times, product(c.f, p, q)) {
		c.t.Fatalf("%v: sum %v and product %v of %v and %v", c.f, sum, times, p, q)
	}
	for _, a := range at {
		x, y := c.eval(p, a), c.eval(q, a)
		if x != value(c.f, p, a) || c.eval(sum, a) != c.addElements(x, y) || c.eval(times, a) != c.mulElements(x, y) {
			c.t.Fatalf("%v: values of %v and %v at %v", c.f, p, q, a)
		}
	}
	if len(p) == 0 || len(q) == 0 {
		if len(times) != 0 || c.degree(times) != -1 {
			c.t.Fatalf("%v: product %v of %v and %v", c.f, times, p, q)
		}
	} else if c.degree(times) != c.degree(p)+c.degree(q) {
		c.t.Fatalf("%v: degree of the product of %v and %v = %d", c.f, p, q, c.degree(times))
	}
}

// P4.2: the laws hold for all triples of small polynomials.
func TestSmallTriples(t *testing.T) {
	for _, r := range smallRings() {
		all := allPolys(r.f, r.n, r.power)
		for _, p := range all {
			for _, q := range all {
				for _, s := range all {
					checkLaws(calculator{t, r.f, r.n}, p, q, s)
				}
			}
		}
	}
}

func checkLaws(c calculator, p, q, s api.Poly) {
	c.t.Helper()
	if !equal(c.add(p, q), c.add(q, p)) || !equal(c.mul(p, q), c.mul(q, p)) {
		c.t.Fatalf("%v: %v and %v do not commute", c.f, p, q)
	}
	if !equal(c.add(c.add(p, q), s), c.add(p, c.add(q, s))) || !equal(c.mul(c.mul(p, q), s), c.mul(p, c.mul(q, s))) {
		c.t.Fatalf("%v: not associative for %v, %v and %v", c.f, p, q, s)
	}
	if !equal(c.mul(p, c.add(q, s)), c.add(c.mul(p, q), c.mul(p, s))) {
		c.t.Fatalf("%v: not distributive for %v, %v and %v", c.f, p, q, s)
	}
}

// P4.1 to P4.3 for larger polynomials over all kinds of fields.
func TestSamplePairs(t *testing.T) {
	random := source(1)
	for _, f := range sampleFields() {
		for _, n := range []int{0, 1, 2, 3, 7, api.MaxVars} {
			for range 12 {
				p, q := random.poly(f, n, 12, 4), random.poly(f, n, 12, 4)
				checkPair(calculator{t, f, n}, p, q, somePoints(&random, f, n))
				checkLaws(calculator{t, f, n}, p, q, random.poly(f, n, 5, 300))
			}
		}
	}
}

// somePoints returns the point of zeros, the point of ones, and others.
func somePoints(random *source, f api.Field, n int) [][]int {
	list := [][]int{make([]int, n)}
	for range 4 {
		at := make([]int, n)
		for v := range at {
			at[v] = random.below(field.Order(f))
		}
		list = append(list, at)
	}
	for v := range n {
		list[1][v] = 1
	}
	return list
}

func TestScale(t *testing.T) {
	random := source(2)
	for _, f := range sampleFields() {
		for n := range 4 {
			c, p := calculator{t, f, n}, random.poly(f, n, 9, 5)
			for _, a := range []int{0, 1, field.Order(f) / 2, field.Order(f) - 1} {
				multiple, wanted := c.scale(a, p), newReference(f, nil)
				wanted.add(a, p)
				if !equal(multiple, wanted.poly()) {
					t.Errorf("%v: Scale(%d, %v) = %v", f, a, p, multiple)
				}
				for _, at := range somePoints(&random, f, n) {
					if c.eval(multiple, at) != c.mulElements(a, c.eval(p, at)) {
						t.Errorf("%v: value of %d times %v at %v = %d", f, a, p, at, c.eval(multiple, at))
					}
				}
			}
		}
	}
}

// P equal polynomials add up to 0.
func TestCancel(t *testing.T) {
	random := source(3)
	for _, f := range []api.Field{two, three, four, five, eight, middle, binary} {
		c := calculator{t, f, 3}
		p := append(random.poly(f, 3, 20, 9), term(1, 10, 10, 10))
		var sum api.Poly
		for i := range f.P {
			if (len(sum) == 0) != (i == 0) {
				t.Fatalf("%v: %d times %v = %v", f, i, p, sum)
			}
			sum = c.add(sum, p)
		}
		if len(sum) != 0 {
			t.Errorf("%v: %d times %v = %v", f, f.P, p, sum)
		}
	}
}

func TestEval(t *testing.T) {
	for _, f := range sampleFields() {
		c, greatest := calculator{t, f, 2}, field.Order(f)-1
		p := api.Poly{term(1, 0, 0), term(greatest, 0, 3), term(1, 2, 1), term(1, 65535, 1)}
		for _, x := range []int{0, 1, greatest, greatest / 2} {
			for _, y := range []int{0, 1, greatest, greatest / 3} {
				if got, wanted := c.eval(p, []int{x, y}), value(f, p, []int{x, y}); got != wanted {
					t.Errorf("%v: value at %d and %d = %d; want %d", f, x, y, got, wanted)
				}
			}
		}
	}
}

// A power with the exponent 0 is 1, also that of 0.
func TestEvalAtZero(t *testing.T) {
	for _, f := range sampleFields() {
		greatest := field.Order(f) - 1
		if got := (calculator{t, f, 1}).eval(api.Poly{term(greatest, 0), term(1, 1)}, []int{0}); got != greatest {
			t.Errorf("%v: value at 0 = %d", f, got)
		}
		if got := (calculator{t, f, 0}).eval(api.Poly{{C: greatest}}, nil); got != greatest {
			t.Errorf("%v: value of a constant = %d", f, got)
		}
		if got := (calculator{t, f, 1}).eval(nil, []int{greatest}); got != 0 {
			t.Errorf("%v: value of 0 = %d", f, got)
		}
	}
}

// The degree is that of the sum of the exponents, not that of the last term.
func TestDegree(t *testing.T) {
	full := make([]int, api.MaxVars)
	for v := range full {
		full[v] = api.MaxPower
	}
	for _, s := range []struct {
		n      int
		p      api.Poly
		degree int
	}{
		{0, nil, -1},
		{3, api.Poly{}, -1},
		{0, api.Poly{{C: 1}}, 0},
		{2, api.Poly{term(2, 0, 0)}, 0},
		{2, api.Poly{term(1, 0, 7), term(1, 2, 6), term(1, 3, 0)}, 8},
		{1, api.Poly{term(1, 65535)}, 65535},
		{api.MaxVars, api.Poly{{C: 1, E: full}}, api.MaxVars * api.MaxPower},
	} {
		if degree := (calculator{t, three, s.n}).degree(s.p); degree != s.degree {
			t.Errorf("Degree(%v) = %d; want %d", s.p, degree, s.degree)
		}
	}
}
