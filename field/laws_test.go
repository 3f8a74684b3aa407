package field_test

import (
	"testing"

	"commodatum/api"
	"commodatum/field"
)

// P3.1: the laws hold for all triples of elements of a small field.
func TestLaws(t *testing.T) {
	for _, f := range smallFields(17) {
		var all []int
		for a := range order(f) {
			all = append(all, a)
		}
		checkLaws(calculator{t, f}, all)
	}
}

func TestLawsOfSamples(t *testing.T) {
	for _, f := range sampleFields() {
		checkLaws(calculator{t, f}, someElements(f))
	}
}

func checkLaws(c calculator, elements []int) {
	c.t.Helper()
	for _, x := range elements {
		if c.add(x, 0) != x || c.mul(x, 1) != x || c.mul(x, 0) != 0 || c.sub(x, x) != 0 {
			c.t.Fatalf("%v: 0 or 1 is not neutral for %d", c.f, x)
		}
		for _, y := range elements {
			checkPairLaws(c, x, y)
			for _, z := range elements {
				checkTripleLaws(c, x, y, z)
			}
		}
	}
}

func checkPairLaws(c calculator, x, y int) {
	c.t.Helper()
	if c.add(x, y) != c.add(y, x) || c.mul(x, y) != c.mul(y, x) {
		c.t.Fatalf("%v: %d and %d do not commute", c.f, x, y)
	}
	if c.sub(c.add(x, y), y) != x || c.add(c.sub(x, y), y) != x {
		c.t.Fatalf("%v: Sub is not inverse to Add for %d and %d", c.f, x, y)
	}
	if (c.mul(x, y) == 0) != (x == 0 || y == 0) {
		c.t.Fatalf("%v: Mul(%d, %d) = %d", c.f, x, y, c.mul(x, y))
	}
}

func checkTripleLaws(c calculator, x, y, z int) {
	c.t.Helper()
	if c.add(c.add(x, y), z) != c.add(x, c.add(y, z)) || c.mul(c.mul(x, y), z) != c.mul(x, c.mul(y, z)) {
		c.t.Fatalf("%v: not associative for %d, %d and %d", c.f, x, y, z)
	}
	if c.mul(x, c.add(y, z)) != c.add(c.mul(x, y), c.mul(x, z)) {
		c.t.Fatalf("%v: not distributive for %d, %d and %d", c.f, x, y, z)
	}
}

// P3.1 and P3.2: every element but 0 has an inverse, and every element is its own power by the order.
func TestInverseAndOrder(t *testing.T) {
	for _, f := range append(smallFields(100), sampleFields()...) {
		c := calculator{t, f}
		for a := range order(f) {
			if a == 0 {
				inverse, e := field.Inverse(f, a)
				wantError(t, "Inverse(0)", f, inverse, e, api.ErrNone)
			} else if inverse := c.inverse(a); c.mul(a, inverse) != 1 {
				t.Fatalf("%v: Inverse(%d) = %d", f, a, inverse)
			}
			if power := c.power(a, order(f)); power != a {
				t.Fatalf("%v: Power(%d, %d) = %d", f, a, order(f), power)
			}
		}
		if c.inverse(1) != 1 {
			t.Errorf("%v: Inverse(1) = %d", f, c.inverse(1))
		}
	}
}

// P3.5: P equal elements add up to 0.
func TestCharacteristic(t *testing.T) {
	for _, f := range append(smallFields(50), sampleFields()...) {
		c := calculator{t, f}
		for _, a := range someElements(f) {
			sum := 0
			for range f.P {
				sum = c.add(sum, a)
			}
			if sum != 0 {
				t.Fatalf("%v: %d equal elements %d add up to %d", f, f.P, a, sum)
			}
		}
	}
}

// P3.5: powers by P can be added.
func TestPowersOfSums(t *testing.T) {
	for _, f := range append(smallFields(50), sampleFields()...) {
		c := calculator{t, f}
		for _, a := range someElements(f) {
			for _, b := range someElements(f) {
				if c.power(c.add(a, b), f.P) != c.add(c.power(a, f.P), c.power(b, f.P)) {
					t.Fatalf("%v: the power of %d and %d by %d", f, a, b, f.P)
				}
			}
		}
	}
}
