package poly

import (
	"slices"

	"commodatum/api"
	"commodatum/field"
)

// ring is what the polynomials over a valid field, in a permitted number of variables, have in common. The
// arguments of its methods are valid: elements of the field, and polynomials over it.
type ring struct {
	f     api.Field
	order int
	n     int // variables
}

// open returns the ring of the polynomials over f in n variables, or ErrForm unless these polynomials belong to it.
func open(f api.Field, n int, polys ...api.Poly) (ring, api.Errno) {
	r := ring{f, field.Order(f), n}
	if r.order == 0 || n < 0 || n > api.MaxVars {
		return ring{}, api.ErrForm
	}
	for _, p := range polys {
		if !r.contains(p) {
			return ring{}, api.ErrForm
		}
	}
	return r, api.OK
}

// contains reports whether p is a valid polynomial of the ring.
func (r ring) contains(p api.Poly) bool {
	if len(p) > api.MaxTerms {
		return false
	}
	for i, t := range p {
		if !r.containsTerm(t) || i > 0 && slices.Compare(p[i-1].E, t.E) >= 0 {
			return false
		}
	}
	return true
}

func (r ring) containsTerm(t api.Term) bool {
	if t.C == 0 || !r.has(t.C) || len(t.E) != r.n {
		return false
	}
	for _, e := range t.E {
		if e < 0 || e > api.MaxPower {
			return false
		}
	}
	return true
}

// has reports whether c is an element of the field.
func (r ring) has(c int) bool {
	return c >= 0 && c < r.order
}

// addElements returns the sum of two elements.
func (r ring) addElements(a, b int) int {
	sum, _ := field.Add(r.f, a, b)
	return sum
}

// subElements returns the difference of two elements.
func (r ring) subElements(a, b int) int {
	difference, _ := field.Sub(r.f, a, b)
	return difference
}

// mulElements returns the product of two elements.
func (r ring) mulElements(a, b int) int {
	// Factors 1 are frequent, and the field would check its arguments even for them.
	if a == 1 {
		return b
	}
	if b == 1 {
		return a
	}
	product, _ := field.Mul(r.f, a, b)
	return product
}

// powerOf returns the product of k factors a.
func (r ring) powerOf(a, k int) int {
	power, _ := field.Power(r.f, a, k)
	return power
}

// one returns the constant 1.
func (r ring) one() api.Poly {
	return api.Poly{{C: 1, E: make([]int, r.n)}}
}

// powersFit reports whether the exponents of the product of p and q are at most MaxPower.
func (r ring) powersFit(p, q api.Poly) bool {
	for v := range r.n {
		// The terms with the greatest exponents have products that do not cancel out, because a product of
		// polynomials other than 0 is not 0. If p or q is 0, no exponent is too great.
		if highest(p, v)+highest(q, v) > api.MaxPower {
			return false
		}
	}
	return true
}

// highest returns the greatest exponent of the variable v.
func highest(p api.Poly, v int) int {
	e := 0
	for _, t := range p {
		e = max(e, t.E[v])
	}
	return e
}
