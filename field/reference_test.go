package field_test

import "commodatum/api"

// reference computes in a field by the definitions, without the package under test.
type reference struct {
	f       api.Field
	modulus []int
}

func newReference(f api.Field) reference {
	return reference{f, leastIrreducible(f.M)}
}

// leastIrreducible returns the coefficients of the first polynomial of a degree that no polynomial of a lesser
// degree divides, but for 1.
func leastIrreducible(degree int) []int {
	for n := 1 << degree; ; n++ {
		p, irreducible := coefficients(n), true
		for d := 2; d < 1<<degree && irreducible; d++ {
			irreducible = number(remainder(p, coefficients(d))) != 0
		}
		if irreducible {
			return p
		}
	}
}

// coefficients returns the bits of a number, up to the last one that is not 0.
func coefficients(n int) []int {
	var list []int
	for ; n > 0; n /= 2 {
		list = append(list, n%2)
	}
	return list
}

func number(list []int) int {
	n := 0
	for i, c := range list {
		n += c << i
	}
	return n
}

// remainder divides polynomials over the field of two elements, in the way of school.
func remainder(p, q []int) []int {
	p = append([]int(nil), p...)
	for top := len(p) - 1; top >= len(q)-1; top-- {
		if p[top] == 0 {
			continue
		}
		for i, c := range q {
			at := top - (len(q) - 1) + i
			p[at] = (p[at] + c) % 2
		}
	}
	return p
}

func (r reference) add(a, b int) int {
	if r.f.M == 1 {
		return (a + b) % r.f.P
	}
	p, q := coefficients(a), coefficients(b)
	sum := make([]int, max(len(p), len(q)))
	for i := range sum {
		if i < len(p) {
			sum[i] += p[i]
		}
		if i < len(q) {
			sum[i] += q[i]
		}
		sum[i] %= 2
	}
	return number(sum)
}

func (r reference) mul(a, b int) int {
	if r.f.M == 1 {
		return a * b % r.f.P
	}
	p, q := coefficients(a), coefficients(b)
	product := make([]int, len(p)+len(q))
	for i, c := range p {
		for j, d := range q {
			product[i+j] = (product[i+j] + c*d) % 2
		}
	}
	return number(remainder(product, r.modulus))
}

// orders returns for each element the least positive exponent for which its power is 1, and 0 for 0. It follows
// the powers of elements that were not met before; the j-th of n powers has the order n / gcd(j, n).
func (r reference) orders() []int {
	list := make([]int, order(r.f))
	for a := 1; a < len(list); a++ {
		if list[a] != 0 {
			continue
		}
		powers := []int{1}
		for b := a; b != 1; b = r.mul(b, a) {
			powers = append(powers, b)
		}
		for j, b := range powers {
			list[b] = len(powers) / divisor(j, len(powers))
		}
	}
	return list
}

// divisor returns the greatest common divisor.
func divisor(a, b int) int {
	if a == 0 {
		return b
	}
	return divisor(b%a, a)
}
