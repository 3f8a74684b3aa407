package poly

import (
	"slices"

	"commodatum/api"
)

// maxPairs is how many pairs of terms are added at once. There may be as many different terms among them, before those
// that cancel out are removed; so memory is short if it is much greater, and much smaller parts take more time.
const maxPairs = 1 << 17

// block is a pair of lists of terms, each in order.
type block struct{ p, q []packed }

// product makes the product of two polynomials: one part of its terms after the other, in order.
type product struct {
	part  *sum // of the pairs that are added at once
	terms api.Poly
}

// mul returns the product of p and q, and whether the limits permit it.
func (r ring) mul(p, q api.Poly) (api.Poly, bool) {
	if !r.powersFit(p, q) {
		return nil, false
	}
	// In characteristic 2, the products of different terms of a square cancel out.
	if r.f.P == 2 && slices.EqualFunc(p, q, equalTerms) {
		return r.powerOfTerms(p, 2)
	}
	m := product{part: r.newSum()}
	if !m.add([]block{{pack(p), pack(q)}}, 0) {
		return nil, false
	}
	return m.terms, true
}

// equalTerms reports whether two terms are the same.
func equalTerms(t, u api.Term) bool {
	return t.C == u.C && slices.Equal(t.E, u.E)
}

// add adds all products of a term of p and a term of q in a block. If there are more than maxPairs, the exponents before
// the variable v are the same in all terms of a list, and those of the products are the same in all blocks. It reports
// whether the limit permits the terms so far; what is added later does not cancel them out.
func (m *product) add(blocks []block, v int) bool {
	// If no variable is left, each term of p is in one pair at most.
	if countPairs(blocks) <= maxPairs {
		return m.addTogether(blocks)
	}
	counts := countByExponent(blocks, v)
	for from := 0; from < len(counts); {
		to, pairs := from+1, counts[from]
		for to < len(counts) && pairs+counts[to] <= maxPairs {
			pairs += counts[to]
			to++
		}
		if !m.add(between(blocks, v, from, to), v+1) {
			return false
		}
		from = to
	}
	return true
}

// addTogether adds the products of the terms in the blocks, to which no other products are equal.
func (m *product) addTogether(blocks []block) bool {
	clear(m.part.terms)
	for _, b := range blocks {
		for _, t := range b.p {
			m.part.addProducts(t, b.q)
		}
	}
	terms, ok := m.part.poly()
	m.terms = append(m.terms, terms...)
	return ok && len(m.terms) <= api.MaxTerms
}

// countPairs returns how many pairs of terms are in the blocks.
func countPairs(blocks []block) int {
	pairs := 0
	for _, b := range blocks {
		pairs += len(b.p) * len(b.q)
	}
	return pairs
}

// countByExponent returns how many pairs of terms there are for each exponent of v in their product.
func countByExponent(blocks []block, v int) []int {
	var counts []int
	for _, b := range blocks {
		last := b.p[len(b.p)-1].exponent(v) + b.q[len(b.q)-1].exponent(v)
		if len(counts) <= last {
			counts = append(counts, make([]int, last+1-len(counts))...)
		}
		others := runs(b.q, v)
		for _, r := range runs(b.p, v) {
			for _, o := range others {
				counts[r.exponent+o.exponent] += len(r.terms) * len(o.terms)
			}
		}
	}
	return counts
}

// run is a part of a list: all terms with this exponent of a variable.
type run struct {
	exponent int
	terms    []packed
}

// runs divides a list whose terms have the same exponents before the variable v.
func runs(list []packed, v int) []run {
	var all []run
	start := 0
	for i, t := range list {
		if i+1 == len(list) || list[i+1].exponent(v) != t.exponent(v) {
			all = append(all, run{t.exponent(v), list[start : i+1]})
			start = i + 1
		}
	}
	return all
}

// between returns the blocks of the pairs for whose product the exponent of v is at least from and less than to.
func between(blocks []block, v, from, to int) []block {
	var part []block
	for _, b := range blocks {
		// The greater the exponent in p, the less are those in q, from first on and before end.
		first, end := len(b.q), len(b.q)
		for _, r := range runs(b.p, v) {
			for first > 0 && r.exponent+b.q[first-1].exponent(v) >= from {
				first--
			}
			for end > 0 && r.exponent+b.q[end-1].exponent(v) >= to {
				end--
			}
			if first < end {
				part = append(part, block{r.terms, b.q[first:end]})
			}
		}
	}
	return part
}
