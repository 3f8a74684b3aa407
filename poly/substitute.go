package poly

import "commodatum/api"

// maxFactorPairs is how many pairs of terms one multiplication may have, as there may be very many of them.
const maxFactorPairs = 1000000

// Substitute returns the polynomial in m variables that results from replacing each variable i of p by l[i].
func Substitute(f api.Field, n int, p api.Poly, m int, l []api.Poly) (api.Poly, api.Errno) {
	if _, e := open(f, n, p); e != api.OK {
		return nil, e
	}
	r, e := open(f, m, l...)
	if e != api.OK {
		return nil, e
	}
	if len(l) != n {
		return nil, api.ErrArg
	}
	s := r.newSum()
	if !s.addSubstituted(p, l, 0, r.one()) {
		return nil, api.ErrSize
	}
	return sized(s.poly())
}

// addSubstituted adds the terms of p, in which the variables from v on are still to be replaced by their
// polynomials of l, while product is what replaces the variables before v: their exponents are equal in all of
// the terms. It reports whether the limits permit all intermediate results.
//
// The terms of p are rising, so that those which begin with the same exponents follow each other, and their
// common beginnings are multiplied only once. Each product is nevertheless one that the chapter's computation
// has, too, but for a coefficient, which changes neither the number of terms nor the exponents.
func (s *sum) addSubstituted(p api.Poly, l []api.Poly, v int, product api.Poly) bool {
	if v == len(l) {
		for _, t := range p { // one term, or none if p is 0
			s.addMultiple(t.C, product)
		}
		return len(s.terms) <= api.MaxTerms || s.settle()
	}
	last := 0
	for len(p) > 0 {
		e := p[0].E[v]
		if e > 0 && len(l[v]) == 0 {
			return true // these terms and those that follow become 0
		}
		next, ok := s.mulPower(product, l[v], e-last)
		same := countSame(p, v)
		if !ok || !s.addSubstituted(p[:same], l, v+1, next) {
			return false
		}
		p, product, last = p[same:], next, e
	}
	return true
}

// countSame returns how many terms at the beginning of p have the same exponent of the variable v.
func countSame(p api.Poly, v int) int {
	count := 1
	for count < len(p) && p[count].E[v] == p[0].E[v] {
		count++
	}
	return count
}

// mulPower multiplies p, which is not 0, by the e-th power of q, which is not 0 unless e is.
func (r ring) mulPower(p, q api.Poly, e int) (api.Poly, bool) {
	if e == 0 {
		return p, true
	}
	if len(q) == 1 {
		power, ok := r.powerOfTerms(q, e)
		if !ok {
			return nil, false
		}
		return r.mul(p, power)
	}
	// All the products of this loop are p times a power of q that the e-th one contains, so none of them is
	// too great unless one of the products by q, one by one, is.
	for {
		ok := true
		for range e % r.f.P {
			if len(p)*len(q) > maxFactorPairs {
				return nil, false
			}
			if p, ok = r.mul(p, q); !ok {
				return nil, false
			}
		}
		e /= r.f.P
		if e == 0 {
			return p, true
		}
		if q, ok = r.powerOfTerms(q, r.f.P); !ok {
			return nil, false
		}
	}
}

// powerOfTerms returns the sum of the k-th powers of the terms of p. It is the k-th power of p if p has one term,
// and also if k is the characteristic of the field. It reports whether the limit permits the exponents.
func (r ring) powerOfTerms(p api.Poly, k int) (api.Poly, bool) {
	power := make(api.Poly, 0, len(p))
	for _, t := range p {
		exponents := make([]int, r.n)
		for v, e := range t.E {
			if e > api.MaxPower/k {
				return nil, false
			}
			exponents[v] = e * k
		}
		power = append(power, api.Term{C: r.powerOf(t.C, k), E: exponents})
	}
	return power, true
}
