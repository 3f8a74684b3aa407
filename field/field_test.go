package field_test

import (
	"math"
	"testing"

	"commodatum/api"
	"commodatum/field"
)

// The greatest prime below MaxField is 65521; the next greater one is 65537.
func TestPrimes(t *testing.T) {
	for p := -300; p < 140000; p++ {
		f, wanted := api.Field{P: p, M: 1}, 0
		if isPrime(p) && p <= api.MaxField {
			wanted = p
		}
		if field.Valid(f) != (wanted != 0) || field.Order(f) != wanted {
			t.Errorf("%v: Valid %v, Order %d; want order %d", f, field.Valid(f), field.Order(f), wanted)
		}
	}
	if !field.Valid(api.Field{P: 65521, M: 1}) || field.Valid(api.Field{P: 65537, M: 1}) {
		t.Error("65521 is not the greatest prime")
	}
}

func TestDegrees(t *testing.T) {
	for m := -70; m <= 140; m++ {
		f, wanted := api.Field{P: 2, M: m}, 0
		if m >= 1 && m <= 16 {
			wanted = 1 << m
		}
		if field.Valid(f) != (wanted != 0) || field.Order(f) != wanted {
			t.Errorf("%v: Valid %v, Order %d; want order %d", f, field.Valid(f), field.Order(f), wanted)
		}
		for _, p := range []int{3, 5, 31, 251, 257, 65521, 1, 4, 0, -2} {
			f := api.Field{P: p, M: m}
			if m != 1 && (field.Valid(f) || field.Order(f) != 0) {
				t.Errorf("%v: Valid %v, Order %d", f, field.Valid(f), field.Order(f))
			}
		}
	}
}

func TestNotFields(t *testing.T) {
	for _, f := range notFields() {
		if field.Valid(f) || field.Order(f) != 0 {
			t.Errorf("%v: Valid %v, Order %d", f, field.Valid(f), field.Order(f))
		}
	}
}

// The moduli are the first irreducible polynomials, found by trying all divisors.
func TestModulus(t *testing.T) {
	for _, f := range binaryFields() {
		modulus, e := field.Modulus(f)
		if f.M == 1 {
			wantError(t, "Modulus", f, modulus, e, api.ErrNone)
		} else if wanted := number(leastIrreducible(f.M)); e != api.OK || modulus != wanted {
			t.Errorf("Modulus(%v) = %d, %v; want %d", f, modulus, e, wanted)
		}
	}
	for _, p := range []int{3, 7, 257, 65521} {
		f := api.Field{P: p, M: 1}
		modulus, e := field.Modulus(f)
		wantError(t, "Modulus", f, modulus, e, api.ErrNone)
	}
}

func TestExamples(t *testing.T) {
	for m, wanted := range map[int]int{2: 7, 3: 11, 4: 19, 8: 283, 16: 65579} {
		if modulus, e := field.Modulus(api.Field{P: 2, M: m}); e != api.OK || modulus != wanted {
			t.Errorf("Modulus of degree %d = %d, %v", m, modulus, e)
		}
	}
	if product := (calculator{t, api.Field{P: 2, M: 2}}).mul(2, 2); product != 3 {
		t.Errorf("Mul(2, 2) of GF(4) = %d", product)
	}
	if root := (calculator{t, api.Field{P: 7, M: 1}}).root(3); root != 2 {
		t.Errorf("Root of GF(7) for 3 = %d", root)
	}
	sixteen := calculator{t, api.Field{P: 2, M: 4}}
	if sixteen.sum(5, 10) != 1 || sixteen.sum(5, 3) != 0 {
		t.Errorf("Sum of GF(16) for 5 = %d, %d", sixteen.sum(5, 10), sixteen.sum(5, 3))
	}
}

// Sums and products are those of the definitions, for all pairs of elements.
func TestSmallFields(t *testing.T) {
	for _, f := range smallFields(67) {
		c, r := calculator{t, f}, newReference(f)
		for a := range order(f) {
			for b := range order(f) {
				checkPair(c, r, a, b)
			}
		}
	}
}

func TestSampleFields(t *testing.T) {
	for _, f := range sampleFields() {
		c, r := calculator{t, f}, newReference(f)
		for _, a := range someElements(f) {
			for _, b := range someElements(f) {
				checkPair(c, r, a, b)
			}
		}
	}
}

// checkPair compares the sum, the difference and the product of two elements with the definitions.
func checkPair(c calculator, r reference, a, b int) {
	c.t.Helper()
	if sum := c.add(a, b); sum != r.add(a, b) {
		c.t.Fatalf("%v: Add(%d, %d) = %d; want %d", c.f, a, b, sum, r.add(a, b))
	}
	if difference := c.sub(a, b); r.add(difference, b) != a {
		c.t.Fatalf("%v: Sub(%d, %d) = %d", c.f, a, b, difference)
	}
	if product := c.mul(a, b); product != r.mul(a, b) {
		c.t.Fatalf("%v: Mul(%d, %d) = %d; want %d", c.f, a, b, product, r.mul(a, b))
	}
}

// Power multiplies k factors, none if k is 0.
func TestPower(t *testing.T) {
	for _, f := range append(smallFields(16), sampleFields()...) {
		c, r := calculator{t, f}, newReference(f)
		for _, a := range someElements(f) {
			wanted := 1
			for k := range 40 {
				if power := c.power(a, k); power != wanted {
					t.Fatalf("%v: Power(%d, %d) = %d; want %d", f, a, k, power, wanted)
				}
				wanted = r.mul(wanted, a)
			}
		}
	}
}

// Powers of elements other than 0 repeat after the order less 1.
func TestGreatPower(t *testing.T) {
	for _, f := range sampleFields() {
		c := calculator{t, f}
		for _, k := range []int{order(f) - 1, order(f), 1 << 32, 1<<32 + 5, math.MaxInt - 1, math.MaxInt} {
			if power := c.power(0, k); power != 0 {
				t.Errorf("%v: Power(0, %d) = %d", f, k, power)
			}
			if power := c.power(1, k); power != 1 {
				t.Errorf("%v: Power(1, %d) = %d", f, k, power)
			}
			for _, a := range someElements(f)[1:] {
				if power, wanted := c.power(a, k), c.power(a, k%(order(f)-1)); power != wanted {
					t.Errorf("%v: Power(%d, %d) = %d; want %d", f, a, k, power, wanted)
				}
			}
		}
	}
}
