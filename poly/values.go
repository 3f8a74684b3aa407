package poly

import (
	"math/bits"

	"commodatum/api"
	"commodatum/field"
)

// Eval returns the value of p at these values of the variables.
func Eval(f api.Field, n int, p api.Poly, at []int) (int, api.Errno) {
	r, e := open(f, n, p)
	if e != api.OK {
		return 0, e
	}
	if len(at) != n {
		return 0, api.ErrArg
	}
	for _, a := range at {
		if !r.has(a) {
			return 0, api.ErrArg
		}
	}
	value := 0
	for _, t := range p {
		value = r.addElements(value, r.valueOf(t, at))
	}
	return value, api.OK
}

// valueOf returns the value of a term.
func (r ring) valueOf(t api.Term, at []int) int {
	value := t.C
	for v, e := range t.E {
		if e > 0 {
			value = r.mulElements(value, r.powerOf(at[v], e))
		}
	}
	return value
}

// Degree returns the greatest sum of the exponents of a term, or -1 without terms.
func Degree(f api.Field, n int, p api.Poly) (int, api.Errno) {
	if _, e := open(f, n, p); e != api.OK {
		return 0, e
	}
	degree := -1
	for _, t := range p {
		sum := 0
		for _, e := range t.E {
			sum += e
		}
		degree = max(degree, sum)
	}
	return degree, api.OK
}

// Multilinear returns the polynomial with exponents of at most 1 whose values at 0 and 1 the table describes.
func Multilinear(f api.Field, table []bool) (api.Poly, api.Errno) {
	if !field.Valid(f) {
		return nil, api.ErrForm
	}
	n := bits.TrailingZeros(uint(len(table)))
	if n > api.MaxTable || len(table) != 1<<n {
		return nil, api.ErrArg
	}
	r, _ := open(f, n)
	s := r.newSum()
	exponents := make([]int, n)
	for i, c := range r.coefficients(table) {
		for v := range exponents {
			exponents[v] = i >> v & 1
		}
		s.addTerm(c, exponents)
	}
	return sized(s.poly())
}

// coefficients returns the coefficients of the multilinear polynomial with these values: bit v of the index of a
// coefficient is the exponent of the variable v.
func (r ring) coefficients(table []bool) []int {
	list := make([]int, len(table))
	for i, is := range table {
		if is {
			list[i] = 1
		}
	}
	for bit := 1; bit < len(list); bit *= 2 {
		for i := range list {
			// A polynomial a + b*x has the values a and a + b, from which b results.
			if i&bit != 0 {
				list[i] = r.subElements(list[i], list[i-bit])
			}
		}
	}
	return list
}
