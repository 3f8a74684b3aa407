package field_test

import (
	"math"
	"slices"
	"testing"

	"commodatum/api"
	"commodatum/field"
)

// P3.3: Root is the least element of the order k, and its powers are the k solutions of x^k = 1.
func TestRoots(t *testing.T) {
	for _, f := range append(smallFields(130), sampleFields()...) {
		orders := newReference(f).orders()
		for k := 1; k <= order(f)+1; k++ {
			if (order(f)-1)%k != 0 {
				root, e := field.Root(f, k)
				wantError(t, "Root", f, root, e, api.ErrNone)
				continue
			}
			checkRoot(calculator{t, f}, orders, k)
		}
	}
}

// checkRoot compares Root and its powers with the orders of all elements.
func checkRoot(c calculator, orders []int, k int) {
	c.t.Helper()
	r := c.root(k)
	if wanted := slices.Index(orders, k); r != wanted {
		c.t.Fatalf("%v: Root for %d = %d; want %d", c.f, k, r, wanted)
	}
	isPower := map[int]bool{}
	for a := 1; !isPower[a]; a = c.mul(a, r) {
		isPower[a] = true
	}
	if len(isPower) != k {
		c.t.Fatalf("%v: Root for %d = %d has %d powers", c.f, k, r, len(isPower))
	}
	for a, n := range orders {
		// The k-th power is 1 if and only if the order divides k.
		if isPower[a] != (a != 0 && k%n == 0) {
			c.t.Fatalf("%v: Root for %d = %d; is %d a power: %v", c.f, k, r, a, isPower[a])
		}
	}
}

// The powers of Root are also what Power says that they are.
func TestSolutions(t *testing.T) {
	for _, f := range smallFields(40) {
		c := calculator{t, f}
		for k := 1; k < order(f); k++ {
			if (order(f)-1)%k != 0 {
				continue
			}
			var powers, solutions []int
			for j := range k {
				powers = append(powers, c.power(c.root(k), j))
			}
			for a := range order(f) {
				if c.power(a, k) == 1 {
					solutions = append(solutions, a)
				}
			}
			slices.Sort(powers)
			if !slices.Equal(powers, solutions) {
				t.Errorf("%v: powers %v and solutions %v for %d", f, powers, solutions, k)
			}
		}
	}
}

// The root for 1 is 1, the root for 2 is the greatest element, and the root for the order less 1 has all
// elements but 0 as its powers.
func TestSpecialRoots(t *testing.T) {
	for _, f := range append(smallFields(100), sampleFields()...) {
		c := calculator{t, f}
		if c.root(1) != 1 {
			t.Errorf("%v: Root for 1 = %d", f, c.root(1))
		}
		if f.P > 2 && c.root(2) != f.P-1 {
			t.Errorf("%v: Root for 2 = %d", f, c.root(2))
		}
		all, r := map[int]bool{}, c.root(order(f)-1)
		for a := 1; !all[a]; a = c.mul(a, r) {
			all[a] = true
		}
		if len(all) != order(f)-1 || all[0] {
			t.Errorf("%v: Root for %d = %d", f, order(f)-1, r)
		}
	}
}

// P3.4: Sum is the sum of its definition, and k ones or 0.
func TestSums(t *testing.T) {
	for _, f := range smallFields(64) {
		c := calculator{t, f}
		for k := 1; k < order(f); k++ {
			for e := 0; e <= 2*k+1 && (order(f)-1)%k == 0; e++ {
				checkSum(c, k, e)
			}
		}
	}
}

func TestSumsOfSamples(t *testing.T) {
	for _, f := range sampleFields() {
		q := order(f)
		for _, k := range []int{1, 2, 3, 4, 5, 7, 15, 17, 255, 257, q - 1} {
			if (q-1)%k != 0 {
				continue
			}
			exponents := []int{0, k - 1, 2 * k, math.MaxInt / k * k, math.MaxInt}
			if k < 300 {
				exponents = append(exponents, 1, k, k+1, 7*k-2, q-1, q, 1<<32, math.MaxInt-1)
			}
			for _, e := range exponents {
				checkSum(calculator{t, f}, k, e)
			}
		}
	}
}

// checkSum adds the powers and the ones by the package's other functions.
func checkSum(c calculator, k, e int) {
	c.t.Helper()
	sum, ones, a, r := 0, 0, 1, c.root(k)
	for range k {
		sum = c.add(sum, c.power(a, e))
		ones = c.add(ones, 1)
		a = c.mul(a, r)
	}
	if e%k != 0 {
		ones = 0
	}
	if got := c.sum(k, e); got != sum || got != ones {
		c.t.Fatalf("%v: Sum(%d, %d) = %d; want %d, which is %d", c.f, k, e, got, sum, ones)
	}
}

// R2: k and e are checked before it is asked whether there is a root.
func TestRootErrors(t *testing.T) {
	for _, f := range append(smallFields(20), sampleFields()...) {
		q := order(f)
		for _, k := range []int{0, -1, -2, 1 - q, math.MinInt} {
			root, e := field.Root(f, k)
			wantError(t, "Root", f, root, e, api.ErrArg)
			for _, exponent := range []int{-1, 0, 1, q, math.MaxInt, math.MinInt} {
				sum, e := field.Sum(f, k, exponent)
				wantError(t, "Sum", f, sum, e, api.ErrArg)
			}
		}
		for _, k := range []int{1, q - 1, q, q + 1, math.MaxInt} {
			for _, exponent := range []int{-1, -k, math.MinInt} {
				sum, e := field.Sum(f, k, exponent)
				wantError(t, "Sum", f, sum, e, api.ErrArg)
			}
		}
		for _, k := range []int{q, q + 1, 2 * (q - 1), 2 * q, 1 << 32, 1<<32 + 1, math.MaxInt} {
			root, e := field.Root(f, k)
			wantError(t, "Root", f, root, e, api.ErrNone)
			for _, exponent := range []int{0, 1, k, math.MaxInt} {
				sum, e := field.Sum(f, k, exponent)
				wantError(t, "Sum", f, sum, e, api.ErrNone)
			}
		}
	}
}

// Between 1 and the order less 1, too, only divisors have roots and sums.
func TestNoDivisors(t *testing.T) {
	for _, f := range smallFields(64) {
		for k := 2; k < order(f); k++ {
			if (order(f)-1)%k != 0 {
				sum, e := field.Sum(f, k, k)
				wantError(t, "Sum", f, sum, e, api.ErrNone)
			}
		}
	}
}
