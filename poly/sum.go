package poly

import (
	"maps"
	"slices"

	"commodatum/api"
)

// sum adds terms. It maps the key of the exponents to the coefficient, which may be 0.
type sum struct {
	ring
	terms map[string]int
	key   []byte
}

// newSum returns the sum of no terms.
func (r ring) newSum() *sum {
	return &sum{r, map[string]int{}, make([]byte, 2*r.n)}
}

// add adds a term.
func (s *sum) add(c int, exponents []int) {
	for v, e := range exponents {
		// MaxPower fits in two bytes. The first one is the greater one, so that keys are ordered as exponents are.
		s.key[2*v], s.key[2*v+1] = byte(e>>8), byte(e)
	}
	if old, ok := s.terms[string(s.key)]; ok {
		c = s.addElements(old, c)
	}
	s.terms[string(s.key)] = c
}

// addMultiple adds the product of the element c and p.
func (s *sum) addMultiple(c int, p api.Poly) {
	for _, t := range p {
		s.add(s.mulElements(c, t.C), t.E)
	}
}

// addProduct adds the product of t and p, whose exponents are at most MaxPower.
func (s *sum) addProduct(t api.Term, p api.Poly) {
	exponents := make([]int, s.n)
	for _, u := range p {
		for v, e := range u.E {
			exponents[v] = t.E[v] + e
		}
		s.add(s.mulElements(t.C, u.C), exponents)
	}
}

// settle removes the terms with the coefficient 0, and reports whether the limit permits the others.
func (s *sum) settle() bool {
	maps.DeleteFunc(s.terms, func(_ string, c int) bool { return c == 0 })
	return len(s.terms) <= api.MaxTerms
}

// poly returns the sum as a polynomial, and whether the limit permits it.
func (s *sum) poly() (api.Poly, bool) {
	if !s.settle() {
		return nil, false
	}
	p := make(api.Poly, 0, len(s.terms))
	for _, key := range slices.Sorted(maps.Keys(s.terms)) {
		p = append(p, api.Term{C: s.terms[key], E: exponentsOf(key)})
	}
	return p, true
}

// exponentsOf returns the exponents whose key it is.
func exponentsOf(key string) []int {
	exponents := make([]int, len(key)/2)
	for v := range exponents {
		exponents[v] = int(key[2*v])<<8 | int(key[2*v+1])
	}
	return exponents
}
