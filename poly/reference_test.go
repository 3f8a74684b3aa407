package poly_test

import (
	"fmt"
	"slices"

	"commodatum/api"
	"commodatum/field"
	"commodatum/poly"
)

// reference is a polynomial without limits: its terms by the text of their exponents, without the package under
// test.
type reference struct {
	f     api.Field
	terms map[string]api.Term
}

func newReference(f api.Field, p api.Poly) reference {
	r := reference{f, map[string]api.Term{}}
	r.add(1, p)
	return r
}

// add adds the product of c and p.
func (r reference) add(c int, p api.Poly) {
	for _, t := range p {
		product, _ := field.Mul(r.f, c, t.C)
		key := fmt.Sprint(t.E)
		sum, _ := field.Add(r.f, r.terms[key].C, product)
		r.terms[key] = api.Term{C: sum, E: slices.Clone(t.E)}
		if sum == 0 {
			delete(r.terms, key)
		}
	}
}

// poly returns the terms in their order.
func (r reference) poly() api.Poly {
	var p api.Poly
	for _, t := range r.terms {
		p = append(p, t)
	}
	slices.SortFunc(p, func(a, b api.Term) int { return slices.Compare(a.E, b.E) })
	return p
}

// product multiplies each term of p by each term of q.
func product(f api.Field, p, q api.Poly) api.Poly {
	r := newReference(f, nil)
	for _, t := range p {
		moved := make(api.Poly, len(q))
		for i, u := range q {
			moved[i] = api.Term{C: u.C, E: make([]int, len(u.E))}
			for v, e := range u.E {
				moved[i].E[v] = t.E[v] + e
			}
		}
		r.add(t.C, moved)
	}
	return r.poly()
}

// value computes the value at a point factor by factor.
func value(f api.Field, p api.Poly, at []int) int {
	sum := 0
	for _, t := range p {
		c := t.C
		for v, e := range t.E {
			for range e {
				c, _ = field.Mul(f, c, at[v])
			}
		}
		sum, _ = field.Add(f, sum, c)
	}
	return sum
}

// substitution is the computation of the chapter for Substitute. It also reports whether all of its intermediate
// results are valid, and all of its multiplications have at most 1000000 pairs of terms.
func substitution(f api.Field, p api.Poly, m int, l []api.Poly) (api.Poly, bool) {
	sum, small := newReference(f, nil), true
	for _, t := range p {
		factor := api.Poly{{C: t.C, E: make([]int, m)}}
		for v, e := range t.E {
			for range e {
				small = small && len(factor)*len(l[v]) <= 1000000
				factor = product(f, factor, l[v])
				small = small && poly.Valid(f, m, factor)
			}
		}
		sum.add(1, factor)
		small = small && len(sum.terms) <= api.MaxTerms
	}
	return sum.poly(), small
}
