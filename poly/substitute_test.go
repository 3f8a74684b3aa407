package poly_test

import (
	"testing"

	"commodatum/api"
	"commodatum/field"
	"commodatum/poly"
)

// checkSubstitute compares Substitute with the chapter's computation, and the values at these points of n variables.
func checkSubstitute(t *testing.T, f api.Field, n int, p api.Poly, l []api.Poly, at [][]int) {
	t.Helper()
	wanted, small := substitution(f, p, n, l)
	result, e := poly.Substitute(f, len(l), p, n, l)
	if !small {
		wantEither(t, "Substitute", result, e, wanted)
		return
	}
	if e != api.OK || !equal(result, wanted) {
		t.Fatalf("%v: %v with %v: %v, %v; want %v", f, p, l, result, e, wanted)
	}
	outer, inner := calculator{t, f, len(l)}, calculator{t, f, n}
	for _, a := range at {
		values := make([]int, len(l))
		for v := range values {
			values[v] = inner.eval(l[v], a)
		}
		if inner.eval(result, a) != outer.eval(p, values) {
			t.Fatalf("%v: %v with %v is %v, which differs at %v", f, p, l, result, a)
		}
	}
}

// P4.1 for all small polynomials.
func TestSubstituteSmall(t *testing.T) {
	for _, r := range []struct {
		f              api.Field
		n, m           int
		power, greater int
	}{
		{two, 1, 1, 4, 2}, {two, 2, 1, 1, 1}, {two, 1, 2, 2, 1}, {three, 1, 1, 3, 1}, {three, 0, 1, 0, 0}, {four, 1, 1, 2, 1}, {three, 1, 0, 4, 0}, {four, 2, 0, 1, 0},
	} {
		inner := allPolys(r.f, r.m, r.greater)
		at := points(field.Order(r.f), r.m)
		for _, p := range allPolys(r.f, r.n, r.power) {
			for _, choice := range points(len(inner), r.n) {
				l := make([]api.Poly, r.n)
				for v, i := range choice {
					l[v] = inner[i]
				}
				checkSubstitute(t, r.f, r.m, p, l, at)
			}
		}
	}
}

// P4.1 for larger ones, with terms that begin with the same exponents, and with 0 among the polynomials.
func TestSubstituteSamples(t *testing.T) {
	random := source(6)
	for _, f := range sampleFields() {
		for _, size := range []struct{ n, m int }{{1, 1}, {1, 3}, {2, 2}, {3, 1}, {4, 2}, {3, api.MaxVars}, {5, 0}} {
			for range 8 {
				p := random.poly(f, size.n, 12, 3)
				l := make([]api.Poly, size.n)
				for v := range l {
					l[v] = random.poly(f, size.m, 3, 4)
				}
				checkSubstitute(t, f, size.m, p, l, somePoints(&random, f, size.m))
			}
		}
	}
}

// The powers of polynomials over a field of a small characteristic, with all digits of their exponents.
func TestSubstitutePowers(t *testing.T) {
	random := source(7)
	for _, f := range sampleFields() {
		for e := range 30 {
			l := []api.Poly{append(random.poly(f, 2, 1, 3), term(field.Order(f)-1, 4, 1))}
			checkSubstitute(t, f, 2, api.Poly{term(1, e)}, l, somePoints(&random, f, 2))
			l[0] = append(l[0], term(1, 5, 0))
			checkSubstitute(t, f, 2, api.Poly{term(1, e/2), term(1, e/2+3)}, l, somePoints(&random, f, 2))
		}
	}
}

// Variables that are replaced by themselves, and by each other.
func TestSubstituteVariables(t *testing.T) {
	for _, s := range goodSamples() {
		same, reversed := make([]api.Poly, s.n), make([]api.Poly, s.n)
		for v := range s.n {
			same[v] = row(s.n, v, 1, 1, 1, 1)
			reversed[v] = row(s.n, s.n-1-v, 1, 1, 1, 1)
		}
		c := calculator{t, s.f, s.n}
		if p := c.substitute(s.p, same); !equal(p, s.p) {
			t.Errorf("%s: the same variables yield %v", s.name, brief(p))
		}
		wanted := clone(s.p)
		for _, u := range wanted {
			for v := range s.n / 2 {
				u.E[v], u.E[s.n-1-v] = u.E[s.n-1-v], u.E[v]
			}
		}
		if p := c.substitute(s.p, reversed); !equal(p, rising(wanted)) {
			t.Errorf("%s: the reversed variables yield %v", s.name, brief(p))
		}
	}
}

// Constants yield the value.
func TestSubstituteConstants(t *testing.T) {
	random := source(8)
	for _, f := range sampleFields() {
		p := random.poly(f, 3, 40, 65535)
		for _, at := range somePoints(&random, f, 3) {
			l := make([]api.Poly, 3)
			for v, a := range at {
				if a != 0 {
					l[v] = api.Poly{term(a, 0, 0)}
				}
			}
			result := calculator{t, f, 2}.substitute(p, l)
			got := 0
			if len(result) == 1 && result[0].E[0] == 0 && result[0].E[1] == 0 {
				got = result[0].C
			}
			if wanted := (calculator{t, f, 3}).eval(p, at); got != wanted || len(result) > 1 {
				t.Errorf("%v: %v at %v: %v; want %d", f, p, at, result, wanted)
			}
		}
	}
}

// All terms have great exponents: the computation must not take as many steps as they say.
func TestSubstituteGreatPowers(t *testing.T) {
	// The exponent is below the characteristic, so that it does not help that P-th powers are simple.
	const great = 65519
	p := row(api.MaxVars, 0, 1, 300, 0, 1)
	for _, u := range p {
		for v := 1; v < api.MaxVars; v++ {
			u.E[v] = great
		}
	}
	l := make([]api.Poly, api.MaxVars)
	for v := range l {
		l[v] = api.Poly{{C: 2}}
	}
	got := calculator{t, prime, 0}.substitute(p, l)
	// 2^0 + 2^1 + .. + 2^299 is 2^300 - 1.
	sum, _ := field.Power(prime, 2, 300)
	rest, _ := field.Power(prime, 2, (api.MaxVars-1)*great)
	wanted, _ := field.Mul(prime, sum-1, rest)
	if !equal(got, api.Poly{{C: wanted}}) {
		t.Errorf("%v; want %d", got, wanted)
	}
	// 1 + x to the power of 2^14 + 2^11 + 2^10 + 2^9 + 2^5, which is 20000
	five := calculator{t, two, 1}.substitute(api.Poly{term(1, 20000)}, []api.Poly{row(1, 0, 1, 2, 0, 1)})
	if len(five) != 32 || five[0].E[0] != 0 || five[1].E[0] != 32 || five[31].E[0] != 20000 {
		t.Errorf("1 + x to the power of 20000: %v", five)
	}
	most := calculator{t, two, 1}.substitute(api.Poly{term(1, 16383)}, []api.Poly{row(1, 0, 1, 2, 0, 1)})
	if !equal(most, row(1, 0, 1, 16384, 0, 1)) {
		t.Errorf("1 + x to the power of 16383: %v", brief(most))
	}
}

// The result exceeds a limit.
func TestSubstituteLimit(t *testing.T) {
	x, y := row(1, 0, 1, 1, 300, 1), row(2, 1, 1, 201, 0, 1)
	p, e := poly.Substitute(two, 1, api.Poly{term(1, 218)}, 1, []api.Poly{x})
	wantPoly(t, "exponent 65400", p, e, row(1, 0, 1, 1, 65400, 1))
	p, e = poly.Substitute(two, 1, api.Poly{term(1, 219)}, 1, []api.Poly{x})
	wantSize(t, "exponent 65700", p, e)
	p, e = poly.Substitute(two, 1, api.Poly{term(1, 65535)}, 1, []api.Poly{row(1, 0, 1, 1, 65535, 1)})
	wantSize(t, "exponent 65535 times 65535", p, e)
	p, e = poly.Substitute(two, 1, api.Poly{term(1, 65535)}, 1, []api.Poly{row(1, 0, 1, 2, 0, 1)})
	wantSize(t, "65536 terms", p, e)
	p, e = poly.Substitute(two, 2, api.Poly{term(1, 1, 1)}, 2, []api.Poly{row(2, 0, 1, 100, 0, 1), y})
	wantSize(t, "100 times 201 terms", p, e)
	p, e = poly.Substitute(two, 2, api.Poly{term(1, 0, 1), term(1, 1, 0)}, 1, []api.Poly{row(1, 0, 1, 10000, 0, 2), row(1, 0, 1, 10001, 1, 2)})
	wantSize(t, "10000 + 10001 terms", p, e)
	p, e = poly.Substitute(two, 2, api.Poly{term(1, 0, 1), term(1, 1, 0)}, 1, []api.Poly{row(1, 0, 1, 10000, 0, 2), row(1, 0, 1, 10000, 1, 2)})
	wantPoly(t, "10000 + 10000 terms", p, e, row(1, 0, 1, 20000, 0, 1))
}

// An intermediate result of the chapter's computation exceeds a limit, but the result does not.
func TestSubstituteIntermediate(t *testing.T) {
	// x^80000 times 0
	p, e := poly.Substitute(two, 2, api.Poly{term(1, 2, 1)}, 1, []api.Poly{row(1, 0, 1, 1, 40000, 1), nil})
	wantEither(t, "great power times 0", p, e, nil)
	// (1 + x)^32768, whose predecessor has 32768 terms
	p, e = poly.Substitute(two, 1, api.Poly{term(1, 32768)}, 1, []api.Poly{row(1, 0, 1, 2, 0, 1)})
	wantEither(t, "power of 1 + x", p, e, api.Poly{term(1, 0), term(1, 32768)})
	// The terms of p are rising, so that x2 and x1 are added first.
	many, others := row(1, 0, 1, 12000, 0, 2), row(1, 0, 1, 12000, 1, 2)
	sum := api.Poly{term(1, 0, 0, 1), term(1, 0, 1, 0), term(1, 1, 0, 0)}
	p, e = poly.Substitute(two, 3, sum, 1, []api.Poly{others, others, many})
	wantEither(t, "sum of three", p, e, many)
	p, e = poly.Substitute(two, 3, sum, 1, []api.Poly{others, many, others})
	wantEither(t, "sum of three", p, e, many)
	// more than 1000000 pairs of terms
	p, e = poly.Substitute(two, 2, api.Poly{term(1, 1, 1)}, 1, []api.Poly{row(1, 0, 1, 1000, 0, 1), row(1, 0, 1, 1001, 0, 1)})
	wantEither(t, "1000 times 1001 terms", p, e, row(1, 0, 1, 1000, 0, 2))
}

// No intermediate result of the chapter's computation exceeds a limit, although those of others may.
func TestSubstituteNoLimit(t *testing.T) {
	p, e := poly.Substitute(two, 2, api.Poly{term(1, 1, 2)}, 1, []api.Poly{nil, row(1, 0, 1, 1, 40000, 1)})
	wantPoly(t, "0 times a great power", p, e, nil)
	p, e = poly.Substitute(two, 2, api.Poly{term(1, 1, 65535)}, 1, []api.Poly{nil, row(1, 0, 1, 2, 0, 1)})
	wantPoly(t, "0 times a long power", p, e, nil)
	p, e = poly.Substitute(two, 2, api.Poly{term(1, 0, 1), term(1, 1, 2)}, 1, []api.Poly{nil, row(1, 0, 1, 1, 40000, 1)})
	wantPoly(t, "0 times a great power", p, e, row(1, 0, 1, 1, 40000, 1))
	many, others := row(1, 0, 1, 12000, 0, 2), row(1, 0, 1, 12000, 1, 2)
	sum := api.Poly{term(1, 0, 0, 1), term(1, 0, 1, 0), term(1, 1, 0, 0)}
	p, e = poly.Substitute(two, 3, sum, 1, []api.Poly{many, others, others})
	wantPoly(t, "sum of three", p, e, many)
	p, e = poly.Substitute(two, 2, api.Poly{term(1, 1, 1)}, 1, []api.Poly{row(1, 0, 1, 1000, 0, 1), row(1, 0, 1, 1000, 0, 1)})
	wantPoly(t, "1000 times 1000 terms", p, e, row(1, 0, 1, 1000, 0, 2))
}

// Terms of different products cancel out, before there are too many.
func TestSubstituteCancels(t *testing.T) {
	c := calculator{t, two, 1}
	one, long := row(1, 0, 1, 1, 0, 1), row(1, 0, 1, 18000, 0, 1)
	// The terms x1^i and x0*x1^i become equal, whatever x1 is, if x0 becomes 1.
	p := append(row(2, 1, 1, 20, 0, 1), row(2, 1, 1, 20, 0, 1)...)
	for _, u := range p[20:] {
		u.E[0] = 1
	}
	if got := c.substitute(p, []api.Poly{one, row(1, 0, 1, 2, 900, 100)}); len(got) != 0 {
		t.Errorf("terms that cancel out: %v", brief(got))
	}
	// l + 1 + l, where the first l has almost all terms that the limit permits
	sum := api.Poly{term(1, 0, 1), term(1, 1, 0), term(1, 1, 1)}
	if got := c.substitute(sum, []api.Poly{one, long}); !equal(got, one) {
		t.Errorf("l + 1 + l: %v", brief(got))
	}
	// l + l + m, where m has other terms; after l is gone there is room for them
	other := row(1, 0, 1, 18000, 20000, 1)
	p = api.Poly{term(1, 0, 0, 1), term(1, 0, 1, 0), term(1, 1, 0, 0)}
	if got := c.substitute(p, []api.Poly{other, long, long}); !equal(got, other) {
		t.Errorf("l + l + m: %v", brief(got))
	}
}

// The first factor makes all products short, although the square of the second one alone is too long.
func TestSubstituteShortProducts(t *testing.T) {
	c := calculator{t, five, 3}
	cube := api.Poly{term(1, 0, 0, 0)}
	short, wanted := cube, cube
	for v := range 3 {
		minus, long := row(3, v, 1, 2, 0, 1), row(3, v, 1, 2, 0, 20)
		minus[1].C, long[1].C = 4, 4
		cube = c.mul(cube, row(3, v, 1, 20, 0, 1))
		short = c.mul(short, c.mul(minus, minus))
		wanted = c.mul(wanted, c.mul(long, long))
	}
	if _, e := poly.Mul(five, 3, cube, cube); len(cube) != 8000 || e != api.ErrSize {
		t.Fatalf("cube: %d terms, %v", len(cube), e)
	}
	p, e := poly.Substitute(five, 2, api.Poly{term(1, 1, 2)}, 3, []api.Poly{short, cube})
	wantPoly(t, "short products", p, e, wanted)
}

// A power of 1 + x over a great prime field has the binomial coefficients.
func TestSubstituteBinomials(t *testing.T) {
	for _, f := range []api.Field{prime, middle, three} {
		binomials := []int{1}
		for e := range 260 {
			if e%20 == 0 || e > 245 {
				var wanted api.Poly
				for i, c := range binomials {
					if c != 0 {
						wanted = append(wanted, term(c, i))
					}
				}
				p, err := poly.Substitute(f, 1, api.Poly{term(1, e)}, 1, []api.Poly{row(1, 0, 1, 2, 0, 1)})
				wantPoly(t, "binomials", p, err, wanted)
			}
			binomials = append(binomials, 0)
			for i := len(binomials) - 1; i > 0; i-- {
				binomials[i] = (binomials[i] + binomials[i-1]) % f.P
			}
		}
	}
}
