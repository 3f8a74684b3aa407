package poly

import (
	"maps"
	"slices"

	"commodatum/api"
)

// sum adds terms. It maps the bytes of the exponents to what settled makes the coefficient of, which may be 0.
type sum struct {
	ring
	terms map[string]uint64
	keys  []byte
}

// newSum returns the sum of no terms.
func (r ring) newSum() *sum {
	return &sum{ring: r, terms: map[string]uint64{}}
}

// add adds a term, whose coefficient is the product of c and d.
func (s *sum) add(c, d int, key string) {
	if s.f.M == 1 {
		// These integers are reduced later, all at once: their sum is far below 2^64.
		s.terms[key] += uint64(c) * uint64(d)
		return
	}
	s.terms[key] ^= uint64(s.mulElements(c, d))
}

// addTerm adds a term.
func (s *sum) addTerm(c int, exponents []int) {
	s.keys = appendKey(s.keys[:0], exponents)
	s.add(c, 1, string(s.keys))
}

// addMultiple adds the product of the element c and p.
func (s *sum) addMultiple(c int, p api.Poly) {
	for _, t := range p {
		s.addTerm(s.mulElements(c, t.C), t.E)
	}
}

// addProducts adds the products of t and all terms of q. Their exponents are at most MaxPower.
func (s *sum) addProducts(t packed, q []packed) {
	s.keys = s.keys[:0]
	for _, u := range q {
		for i, word := range u.words {
			s.keys = appendWord(s.keys, t.words[i]+word)
		}
	}
	// The keys are parts of one string, as many short ones would take much more time.
	keys, size := string(s.keys), exponentBytes*wordExponents*len(t.words)
	for i, u := range q {
		s.add(t.c, u.c, keys[i*size:i*size+exponentBytes*s.n])
	}
}

// settled returns the coefficient, which results from adding.
func (s *sum) settled(c uint64) int {
	if s.f.M == 1 {
		return int(c % uint64(s.f.P))
	}
	return int(c)
}

// settle removes the terms with the coefficient 0, and reports whether the limit permits the others.
func (s *sum) settle() bool {
	maps.DeleteFunc(s.terms, func(_ string, c uint64) bool { return s.settled(c) == 0 })
	return len(s.terms) <= api.MaxTerms
}

// poly returns the sum as a polynomial, and whether the limit permits it.
func (s *sum) poly() (api.Poly, bool) {
	if !s.settle() {
		return nil, false
	}
	p := make(api.Poly, 0, len(s.terms))
	for _, key := range slices.Sorted(maps.Keys(s.terms)) {
		p = append(p, api.Term{C: s.settled(s.terms[key]), E: exponentsOf(key)})
	}
	return p, true
}
