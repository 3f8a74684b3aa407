package poly_test

import (
	"testing"

	"commodatum/api"
	"commodatum/poly"
)

// wantSize fails unless the call returned ErrSize and nothing else.
func wantSize(t *testing.T, what string, p api.Poly, e api.Errno) {
	t.Helper()
	if e != api.ErrSize || len(p) != 0 {
		t.Errorf("%s: %d terms, %v; want ErrSize", what, len(p), e)
	}
}

// wantPoly fails unless the call returned this polynomial.
func wantPoly(t *testing.T, what string, p api.Poly, e api.Errno, wanted api.Poly) {
	t.Helper()
	if e != api.OK || !equal(p, wanted) {
		t.Errorf("%s: %d terms, %v, %v; want %d terms", what, len(p), brief(p), e, len(wanted))
	}
}

// wantEither permits ErrSize, too.
func wantEither(t *testing.T, what string, p api.Poly, e api.Errno, wanted api.Poly) {
	t.Helper()
	if e == api.ErrSize && len(p) == 0 {
		return
	}
	wantPoly(t, what, p, e, wanted)
}

func TestAddLimit(t *testing.T) {
	even, odd := row(1, 0, 1, 10000, 0, 2), row(1, 0, 1, 10000, 1, 2)
	sum, e := poly.Add(three, 1, even, odd)
	wantPoly(t, "10000 + 10000 terms", sum, e, row(1, 0, 1, 20000, 0, 1))
	sum, e = poly.Add(three, 1, odd, even)
	wantPoly(t, "10000 + 10000 terms", sum, e, row(1, 0, 1, 20000, 0, 1))
	sum, e = poly.Add(three, 1, row(1, 0, 1, 10001, 0, 2), odd)
	wantSize(t, "10001 + 10000 terms", sum, e)
	sum, e = poly.Add(three, 1, row(1, 0, 1, 20000, 0, 1), row(1, 0, 1, 1, 20000, 1))
	wantSize(t, "20000 + 1 terms", sum, e)
	sum, e = poly.Add(three, 1, row(1, 0, 1, 20000, 0, 1), row(1, 0, 1, 20000, 0, 1))
	wantPoly(t, "20000 equal terms", sum, e, row(1, 0, 2, 20000, 0, 1))
	sum, e = poly.Add(three, 1, row(1, 0, 1, 20000, 0, 1), row(1, 0, 2, 20000, 0, 1))
	wantPoly(t, "20000 terms that cancel out", sum, e, nil)
}

// The limit is for what is left after terms have cancelled out.
func TestAddLimitAfterCancelling(t *testing.T) {
	first := row(1, 0, 1, 20000, 0, 1)
	for shared, wanted := range map[int]api.Errno{10000: api.OK, 9999: api.ErrSize} {
		second := row(1, 0, 2, 20000, 20000-shared, 1)
		sum, e := poly.Add(three, 1, first, second)
		if wanted == api.OK {
			wantPoly(t, "half is cancelled", sum, e, append(row(1, 0, 1, 10000, 0, 1), row(1, 0, 2, 10000, 20000, 1)...))
		} else {
			wantSize(t, "not half is cancelled", sum, e)
		}
	}
}

func TestMulPowerLimit(t *testing.T) {
	for _, n := range []int{1, 2, api.MaxVars} {
		for _, v := range []int{0, n / 2, n - 1} {
			half, more := row(n, v, 1, 2, 32767, 1), row(n, v, 1, 2, 32766, 1)
			p, e := poly.Mul(two, n, half, more)
			wantPoly(t, "exponent 65535", p, e, append(row(n, v, 1, 1, 65533, 1), row(n, v, 1, 1, 65535, 1)...))
			p, e = poly.Mul(two, n, half, half)
			wantSize(t, "exponent 65536", p, e)
			p, e = poly.Mul(two, n, row(n, v, 1, 1, 65535, 1), row(n, v, 1, 2, 0, 1))
			wantSize(t, "exponent 65536", p, e)
			p, e = poly.Mul(two, n, row(n, v, 1, 1, 65535, 1), row(n, v, 1, 1, 65535, 1))
			wantSize(t, "exponent 131070", p, e)
			p, e = poly.Mul(two, n, row(n, v, 1, 1, 65535, 1), nil)
			wantPoly(t, "times 0", p, e, nil)
		}
	}
	// The exponents of different variables do not add up.
	p, e := poly.Mul(two, 2, row(2, 0, 1, 1, 65535, 1), row(2, 1, 1, 1, 65535, 1))
	wantPoly(t, "two variables", p, e, api.Poly{term(1, 65535, 65535)})
}

func TestMulTermsLimit(t *testing.T) {
	x, y := row(2, 0, 2, 100, 0, 1), row(2, 1, 2, 200, 0, 1)
	var wanted api.Poly
	for i := range 100 {
		for j := range 200 {
			wanted = append(wanted, term(4, i, j))
		}
	}
	p, e := poly.Mul(five, 2, x, y)
	wantPoly(t, "100 times 200 terms", p, e, wanted)
	p, e = poly.Mul(five, 2, x, row(2, 1, 2, 201, 0, 1))
	wantSize(t, "100 times 201 terms", p, e)
	p, e = poly.Mul(five, 2, row(2, 1, 1, 1000, 0, 1), row(2, 0, 1, 1000, 0, 1))
	wantSize(t, "1000 times 1000 different terms", p, e)
}

// The number of pairs of terms does not matter, only the terms of the product.
func TestMulPairs(t *testing.T) {
	for _, f := range []api.Field{two, three, prime} {
		for _, size := range [][2]int{{1000, 1000}, {1000, 1001}, {1001, 1000}, {2000, 2500}, {20000, 50}, {50, 20000}, {500, 19501}, {19502, 500}} {
			// The factors are sums of all powers of x below a and b.
			a, b := size[0], size[1]
			var wanted api.Poly
			for k := range a + b - 1 {
				pairs := min(k, a-1) - max(0, k-b+1) + 1
				if c := pairs % f.P; c > 0 {
					wanted = append(wanted, term(c, k))
				}
			}
			p, e := poly.Mul(f, 1, row(1, 0, 1, a, 0, 1), row(1, 0, 1, b, 0, 1))
			if len(wanted) > api.MaxTerms {
				wantSize(t, "sums of powers", p, e)
			} else {
				wantPoly(t, "sums of powers", p, e, wanted)
			}
		}
	}
}

// In the course of the multiplication there may be more than MaxTerms terms, if they cancel out.
func TestMulCancels(t *testing.T) {
	// (1 - x) (1 + x + .. + x^9) is 1 - x^10; the other factors have 90 * 100 different products.
	p, e := poly.Mul(prime, 2, row(2, 0, 1, 10, 0, 1), row(2, 1, 1, 100, 0, 1))
	if e != api.OK || len(p) != 1000 {
		t.Fatalf("first factor: %d, %v", len(p), e)
	}
	minus := api.Poly{term(1, 0, 0), term(65520, 1, 0)}
	q, e := poly.Mul(prime, 2, minus, row(2, 1, 1, 90, 0, 100))
	if e != api.OK || len(q) != 180 {
		t.Fatalf("second factor: %d, %v", len(q), e)
	}
	var wanted api.Poly
	for i, c := range []int{1, 65520} {
		wanted = append(wanted, rowAt(10*i, c, 9000)...)
	}
	product, e := poly.Mul(prime, 2, p, q)
	wantPoly(t, "180000 pairs", product, e, wanted)
	product, e = poly.Mul(prime, 2, q, p)
	wantPoly(t, "180000 pairs", product, e, wanted)
}

// rowAt returns x^i times the sum of the first powers of y, with the coefficient c.
func rowAt(i, c, count int) api.Poly {
	p := row(2, 1, c, count, 0, 1)
	for _, t := range p {
		t.E[0] = i
	}
	return p
}

// 20000 terms, the last of which cancel out, times 50 terms.
func TestMulTelescope(t *testing.T) {
	alternating := row(1, 0, 1, 50, 0, 1)
	for i := 1; i < 50; i += 2 {
		alternating[i].C = 2
	}
	p, e := poly.Mul(three, 1, row(1, 0, 1, 20000, 0, 1), alternating)
	wantPoly(t, "20000 times 50 terms", p, e, append(row(1, 0, 1, 25, 0, 2), row(1, 0, 2, 25, 20000, 2)...))
}

func TestScaleLimit(t *testing.T) {
	p, e := poly.Scale(five, 1, 3, row(1, 0, 2, api.MaxTerms, 0, 3))
	wantPoly(t, "3 times 20000 terms", p, e, row(1, 0, 1, api.MaxTerms, 0, 3))
}
