package perm_test

import (
	"math"
	"slices"
	"testing"

	"commodatum/api"
	"commodatum/perm"
)

func TestValid(t *testing.T) {
	for n := 1; n <= api.MaxPoints; n++ {
		for _, p := range everyPerm(n) {
			if !perm.Valid(p) {
				t.Fatalf("Valid(%v) = false", p)
			}
		}
	}
	for _, p := range notPerms() {
		if perm.Valid(p) {
			t.Errorf("Valid(%v) = true", p)
		}
	}
}

func TestIdentity(t *testing.T) {
	for n := 1; n <= api.MaxPoints; n++ {
		p, e := perm.Identity(n)
		want(t, "Identity", p, e, identity(n))
	}
	for _, n := range []int{0, -1, 8, math.MinInt, math.MaxInt} {
		p, e := perm.Identity(n)
		wantError(t, "Identity", p, e, api.ErrArg)
	}
}

// P1.1: the product is associative.
func TestMulAssociative(t *testing.T) {
	for n := 1; n <= 4; n++ {
		list := everyPerm(n)
		for _, p := range list {
			for _, q := range list {
				pq, e := perm.Mul(p, q)
				want(t, "Mul", pq, e, product(p, q))
				for _, r := range list {
					left, _ := perm.Mul(pq, r)
					qr, _ := perm.Mul(q, r)
					right, _ := perm.Mul(p, qr)
					want(t, "Mul of three", left, api.OK, right)
				}
			}
		}
	}
}

// P1.1: the identity is neutral, and inverses are inverse on both sides.
func TestNeutralAndInverse(t *testing.T) {
	for n := 1; n <= api.MaxPoints; n++ {
		one, _ := perm.Identity(n)
		for _, p := range everyPerm(n) {
			left, e := perm.Mul(one, p)
			want(t, "identity times p", left, e, p)
			right, e := perm.Mul(p, one)
			want(t, "p times identity", right, e, p)
			q, e := perm.Inverse(p)
			want(t, "Inverse", q, e, inverse(p))
			first, e := perm.Mul(p, q)
			want(t, "p times inverse", first, e, identity(n))
			second, e := perm.Mul(q, p)
			want(t, "inverse times p", second, e, identity(n))
		}
	}
}

// Mul applies p first; all pairs of five points tell the two orders apart.
func TestMulOrder(t *testing.T) {
	p, e := perm.Mul(api.Perm{1, 0, 2}, api.Perm{0, 2, 1})
	want(t, "Mul of (0 1) and (1 2)", p, e, api.Perm{2, 0, 1})
	list := everyPerm(5)
	for _, p := range list {
		for _, q := range list {
			r, e := perm.Mul(p, q)
			want(t, "Mul", r, e, product(p, q))
		}
	}
}

func TestCommutator(t *testing.T) {
	for _, n := range []int{1, 2, 3, 5} {
		list := everyPerm(n)
		for _, p := range list {
			for _, q := range list {
				c, e := perm.Commutator(p, q)
				want(t, "Commutator", c, e, product(product(inverse(p), inverse(q)), product(p, q)))
			}
		}
	}
	c, e := perm.Commutator(api.Perm{1, 2, 3, 4, 0}, api.Perm{2, 0, 4, 1, 3})
	if e != api.OK || perm.Order(c) != 5 {
		t.Errorf("Commutator of two cycles = %v, %v", c, e)
	}
}

// Power is the repeated product, of inverses for negative exponents.
func TestPower(t *testing.T) {
	for n := 1; n <= 5; n++ {
		for _, p := range everyPerm(n) {
			up, down := identity(n), identity(n)
			for k := range 14 {
				q, e := perm.Power(p, k)
				want(t, "Power", q, e, up)
				q, e = perm.Power(p, -k)
				want(t, "Power of negative exponent", q, e, down)
				up, down = product(up, p), product(down, inverse(p))
			}
		}
	}
}

func TestPowerOfGreatExponents(t *testing.T) {
	p := api.Perm{1, 2, 0, 4, 5, 6, 3}
	for _, k := range []int{math.MaxInt, math.MinInt, math.MaxInt - 1, math.MinInt + 1, 12 << 50, -12 << 50} {
		wanted := identity(7)
		for range (k%12 + 12) % 12 {
			wanted = product(wanted, p)
		}
		q, e := perm.Power(p, k)
		want(t, "Power", q, e, wanted)
	}
}

func TestErrorsOfOnePerm(t *testing.T) {
	for _, p := range notPerms() {
		q, e := perm.Inverse(p)
		wantError(t, "Inverse", q, e, api.ErrForm)
		for _, k := range []int{0, 1, -1, math.MinInt} {
			q, e = perm.Power(p, k)
			wantError(t, "Power", q, e, api.ErrForm)
		}
	}
}

// R2: ErrForm comes before ErrArg, whichever argument is not valid.
func TestErrorsOfTwoPerms(t *testing.T) {
	calls := map[string]func(p, q api.Perm) (api.Perm, api.Errno){
		"Mul": perm.Mul, "Commutator": perm.Commutator, "Conjugator": perm.Conjugator,
	}
	for name, call := range calls {
		for _, bad := range notPerms() {
			for _, other := range []api.Perm{{0}, {1, 0}, {2, 0, 1}, bad} {
				q, e := call(bad, other)
				wantError(t, name, q, e, api.ErrForm)
				q, e = call(other, bad)
				wantError(t, name, q, e, api.ErrForm)
			}
		}
		for n := 1; n <= api.MaxPoints; n++ {
			for m := 1; m <= api.MaxPoints; m++ {
				q, e := call(identity(n), identity(m))
				if n == m {
					want(t, name, q, e, identity(n))
				} else {
					wantError(t, name, q, e, api.ErrArg)
				}
			}
		}
	}
}

// R5 and R6: arguments stay as they are, results are new memory, and equal calls have equal results.
func TestArgumentsAndResults(t *testing.T) {
	calls := map[string]func(p, q api.Perm) (api.Perm, api.Errno){
		"Mul": perm.Mul, "Commutator": perm.Commutator, "Conjugator": perm.Conjugator,
		"Inverse":  func(p, _ api.Perm) (api.Perm, api.Errno) { return perm.Inverse(p) },
		"Power 0":  func(p, _ api.Perm) (api.Perm, api.Errno) { return perm.Power(p, 0) },
		"Power 1":  func(p, _ api.Perm) (api.Perm, api.Errno) { return perm.Power(p, 1) },
		"Identity": func(p, _ api.Perm) (api.Perm, api.Errno) { return perm.Identity(len(p)) },
		"Unrank":   func(p, _ api.Perm) (api.Perm, api.Errno) { return perm.Unrank(len(p), 3) },
		"Parse":    func(p, _ api.Perm) (api.Perm, api.Errno) { return perm.Parse("()", len(p)) },
	}
	list := everyPerm(3)
	for name, call := range calls {
		for _, p := range list {
			for _, q := range list {
				checkMemory(t, name, call, p, q)
			}
		}
	}
}

func checkMemory(t *testing.T, name string, call func(p, q api.Perm) (api.Perm, api.Errno), p, q api.Perm) {
	t.Helper()
	givenP, givenQ := slices.Clone(p), slices.Clone(q)
	first, e := call(givenP, givenQ)
	wanted := slices.Clone(first)
	for i := range first {
		first[i] = 9
	}
	if !slices.Equal(givenP, p) || !slices.Equal(givenQ, q) {
		t.Fatalf("%s changed %v, %v to %v, %v", name, p, q, givenP, givenQ)
	}
	second, again := call(p, q)
	if again != e || !slices.Equal(second, wanted) {
		t.Fatalf("%s of %v, %v = %v, %v and then %v, %v", name, p, q, wanted, e, second, again)
	}
}
