package poly_test

import (
	"fmt"
	"math/bits"
	"testing"

	"commodatum/api"
	"commodatum/field"
	"commodatum/poly"
)

// P4.4: Reduce has the same values, for all small polynomials with exponents above the order.
func TestReduceSmall(t *testing.T) {
	for _, r := range []smallRing{{two, 0, 0}, {two, 1, 5}, {two, 2, 2}, {three, 1, 6}, {four, 1, 4}} {
		for _, p := range allPolys(r.f, r.n, r.power) {
			checkReduce(calculator{t, r.f, r.n}, p, points(field.Order(r.f), r.n))
		}
	}
}

func TestReduceSamples(t *testing.T) {
	random := source(4)
	for _, f := range sampleFields() {
		for _, n := range []int{0, 1, 2, 5, api.MaxVars} {
			for _, power := range []int{2, field.Order(f), 65535} {
				power = min(power, 65535)
				p := random.poly(f, n, 30, power)
				checkReduce(calculator{t, f, n}, p, somePoints(&random, f, n))
			}
		}
	}
}

func checkReduce(c calculator, p api.Poly, at [][]int) {
	c.t.Helper()
	reduced, wanted := c.reduce(p), newReference(c.f, nil)
	for _, t := range p {
		u := api.Term{C: t.C, E: make([]int, c.n)}
		for v, e := range t.E {
			u.E[v] = reducedPower(field.Order(c.f), e)
		}
		wanted.add(1, api.Poly{u})
	}
	if !equal(reduced, wanted.poly()) {
		c.t.Fatalf("%v: Reduce(%v) = %v", c.f, p, reduced)
	}
	if !equal(c.reduce(reduced), reduced) {
		c.t.Fatalf("%v: Reduce(%v) changes a reduced polynomial", c.f, reduced)
	}
	for _, a := range at {
		if c.eval(reduced, a) != c.eval(p, a) {
			c.t.Fatalf("%v: %v and %v differ at %v", c.f, p, reduced, a)
		}
	}
}

// reducedPower subtracts the order less 1 as long as the exponent is at least the order.
func reducedPower(order, e int) int {
	for e >= order {
		e -= order - 1
	}
	return e
}

// All exponents of one variable are reduced as the chapter says.
func TestReduceExponents(t *testing.T) {
	for _, f := range sampleFields() {
		q := field.Order(f)
		c := calculator{t, f, 1}
		for _, e := range []int{0, 1, q - 2, q - 1, q, q + 1, 2*q - 3, 2*q - 2, 2*q - 1, 2 * q, 40000, 65519, 65520, 65521, 65522, 65534, 65535} {
			if e < 0 || e > api.MaxPower {
				continue
			}
			wanted := api.Poly{term(1, reducedPower(q, e))}
			if p := c.reduce(api.Poly{term(1, e)}); !equal(p, wanted) {
				t.Errorf("%v: Reduce of exponent %d = %v", f, e, p)
			}
		}
	}
}

// Terms that become equal are added, and may be 0 then; the order of the terms may change.
func TestReduceAdds(t *testing.T) {
	for _, s := range []struct {
		f         api.Field
		p, wanted api.Poly
	}{
		{two, api.Poly{term(1, 3, 0)}, api.Poly{term(1, 1, 0)}},
		{two, api.Poly{term(1, 1, 0), term(1, 3, 0)}, nil},
		{two, api.Poly{term(1, 1, 1), term(1, 2, 0)}, api.Poly{term(1, 1, 0), term(1, 1, 1)}},
		{three, api.Poly{term(1, 1, 0), term(1, 3, 0)}, api.Poly{term(2, 1, 0)}},
		{three, api.Poly{term(1, 1, 0), term(1, 3, 0), term(1, 5, 0)}, nil},
		{three, api.Poly{term(2, 2, 4), term(1, 3, 1)}, api.Poly{term(1, 1, 1), term(2, 2, 2)}},
		{four, api.Poly{term(2, 0, 1), term(3, 0, 4)}, api.Poly{term(1, 0, 1)}},
	} {
		if p := (calculator{t, s.f, 2}).reduce(s.p); !equal(p, s.wanted) {
			t.Errorf("%v: Reduce(%v) = %v; want %v", s.f, s.p, p, s.wanted)
		}
	}
	all := calculator{t, two, 1}.reduce(row(1, 0, 1, api.MaxTerms, 0, 1))
	if !equal(all, api.Poly{term(1, 0), term(1, 1)}) {
		t.Errorf("Reduce of all powers = %v", brief(all))
	}
}

// P4.4: reduced polynomials with the same values are equal.
func TestReducedDiffer(t *testing.T) {
	for _, r := range []smallRing{{three, 0, 0}, {two, 1, 1}, {two, 2, 1}, {two, 3, 1}, {three, 1, 2}, {three, 2, 2}, {four, 1, 3}, {five, 1, 4}} {
		c := calculator{t, r.f, r.n}
		all := allPolys(r.f, r.n, r.power)
		places := points(field.Order(r.f), r.n)
		met := map[string]bool{}
		for _, p := range all {
			values := make([]int, len(places))
			for i, at := range places {
				values[i] = c.eval(p, at)
			}
			met[fmt.Sprint(values)] = true
		}
		if len(met) != len(all) {
			t.Errorf("%v, %d variables: %d reduced polynomials have %d lists of values", r.f, r.n, len(all), len(met))
		}
	}
}

// P4.5: for all tables of few inputs, Multilinear has the values of the table.
func TestMultilinearSmall(t *testing.T) {
	for _, f := range sampleFields() {
		for n := range 4 {
			for number := range 1 << (1 << n) {
				table := make([]bool, 1<<n)
				for i := range table {
					table[i] = number>>i&1 == 1
				}
				p := multilinear(t, f, n, table)
				for i, at := range points(2, n) {
					if got := (calculator{t, f, n}).eval(p, at); got != number>>i&1 {
						t.Fatalf("%v: Multilinear(%v) = %v has the value %d at %v", f, table, p, got, at)
					}
				}
			}
		}
	}
}

// multilinear also checks that the exponents are at most 1.
func multilinear(t *testing.T, f api.Field, n int, table []bool) api.Poly {
	t.Helper()
	p, e := poly.Multilinear(f, table)
	calculator{t, f, n}.valid("Multilinear", p, e)
	for _, u := range p {
		for _, e := range u.E {
			if e > 1 {
				t.Fatalf("%v: Multilinear(%v) = %v", f, table, p)
			}
		}
	}
	return p
}

// P4.5: every polynomial with exponents of at most 1 and values 0 and 1 is the one that Multilinear returns.
func TestMultilinearOnly(t *testing.T) {
	for _, r := range []smallRing{{three, 0, 1}, {two, 3, 1}, {three, 3, 1}, {four, 2, 1}, {five, 2, 1}, {seven, 2, 1}} {
		c, count := calculator{t, r.f, r.n}, 0
		for _, p := range allPolys(r.f, r.n, 1) {
			table, isTable := make([]bool, 1<<r.n), true
			for i, at := range points(2, r.n) {
				value := c.eval(p, at)
				table[i] = value == 1
				isTable = isTable && value <= 1
			}
			if !isTable {
				continue
			}
			count++
			if got := multilinear(t, r.f, r.n, table); !equal(got, p) {
				t.Errorf("%v: Multilinear(%v) = %v; want %v", r.f, table, got, p)
			}
		}
		if count != 1<<(1<<r.n) {
			t.Errorf("%v, %d variables: %d tables", r.f, r.n, count)
		}
	}
}

// Great tables: the value at a point is the sum of the coefficients of the terms whose variables are all 1.
func TestMultilinearGreat(t *testing.T) {
	random := source(5)
	for _, f := range sampleFields() {
		for n := 4; n <= api.MaxTable; n += 4 {
			table := make([]bool, 1<<n)
			for i := range table {
				table[i] = random.below(3) == 0
			}
			c := calculator{t, f, n}
			values := make([]int, 1<<n)
			for _, u := range multilinear(t, f, n, table) {
				values[indexOf(u)] = u.C
			}
			for bit := 1; bit < 1<<n; bit *= 2 {
				for i := range values {
					if i&bit != 0 {
						values[i] = c.addElements(values[i], values[i-bit])
					}
				}
			}
			for i, is := range table {
				if values[i] > 1 || (values[i] == 1) != is {
					t.Fatalf("%v, %d inputs: value %d at %d", f, n, values[i], i)
				}
			}
		}
	}
}

// indexOf returns the index of the point at which just the variables of the term are 1.
func indexOf(u api.Term) int {
	index := 0
	for v, e := range u.E {
		index += e << v
	}
	return index
}

// Only the point 0 is true: the product of all 1 - x, whose coefficients are 1 and -1.
func TestMultilinearOfNor(t *testing.T) {
	for _, f := range []api.Field{two, three, prime, binary} {
		table := make([]bool, 1<<api.MaxTable)
		table[0] = true
		p := multilinear(t, f, api.MaxTable, table)
		minus, _ := field.Sub(f, 0, 1)
		for _, u := range p {
			wanted := 1
			if bits.OnesCount(uint(indexOf(u)))%2 == 1 {
				wanted = minus
			}
			if u.C != wanted {
				t.Fatalf("%v: coefficient %d of %v", f, u.C, u.E)
			}
		}
		if len(p) != 1<<api.MaxTable {
			t.Errorf("%v: %d terms", f, len(p))
		}
	}
}

func TestMultilinearErrors(t *testing.T) {
	for _, length := range []int{0, 3, 5, 6, 7, 4095, 4097, 6144, 8191, 8192, 1 << 20} {
		for _, f := range sampleFields() {
			p, e := poly.Multilinear(f, make([]bool, length))
			if e != api.ErrArg || len(p) != 0 {
				t.Errorf("%v: table of %d values: %v, %v", f, length, brief(p), e)
			}
		}
		for _, f := range notFields() {
			p, e := poly.Multilinear(f, make([]bool, length))
			if e != api.ErrForm || len(p) != 0 {
				t.Errorf("%v: table of %d values: %v, %v", f, length, brief(p), e)
			}
		}
	}
	for _, f := range notFields() {
		if p, e := poly.Multilinear(f, make([]bool, 4)); e != api.ErrForm || len(p) != 0 {
			t.Errorf("%v: %v, %v", f, p, e)
		}
	}
}
