package field

import "commodatum/api"

// Root returns the least element whose k-th power is the first one that is 1.
func Root(f api.Field, k int) (int, api.Errno) {
	ops, e := openRoots(f, k)
	if e != api.OK {
		return 0, e
	}
	divisors := primeDivisors(k)
	for r := 1; r < ops.order(); r++ {
		if isRoot(ops, r, k, divisors) {
			return r, api.OK
		}
	}
	// Not reached: the elements other than 0 are the powers of one of them, so each k that divides their number
	// has a root.
	return 0, api.ErrNone
}

// Sum returns the sum of (r^j)^e for j from 0 to k - 1, where r is Root(f, k).
func Sum(f api.Field, k, e int) (int, api.Errno) {
	if Valid(f) && e < 0 {
		return 0, api.ErrArg
	}
	if _, err := openRoots(f, k); err != api.OK {
		return 0, err
	}
	// The terms are the first k powers of w = r^e, and w^k is 1. So their sum times w is the same sum, which
	// is 0 if w is not 1. If w is 1, and it is if k divides e, the sum is that of k ones.
	if e%k != 0 {
		return 0, api.OK
	}
	return k % f.P, api.OK
}

// openRoots returns the operations of f, or the error of Root.
func openRoots(f api.Field, k int) (operations, api.Errno) {
	ops, e := open(f)
	if e != api.OK {
		return nil, e
	}
	if k < 1 {
		return nil, api.ErrArg
	}
	if (ops.order()-1)%k != 0 {
		return nil, api.ErrNone
	}
	return ops, api.OK
}

// isRoot reports whether the k-th power of r is the first one that is 1. The divisors are the prime ones of k.
func isRoot(ops operations, r, k int, divisors []int) bool {
	if power(ops, r, k) != 1 {
		return false
	}
	// If the k-th power is 1, then the first such exponent divides k; if it is less, it divides one of these.
	for _, d := range divisors {
		if power(ops, r, k/d) == 1 {
			return false
		}
	}
	return true
}

// primeDivisors returns the prime numbers that divide k, which is positive.
func primeDivisors(k int) []int {
	var divisors []int
	for d := 2; k > 1; d++ {
		if k%d != 0 {
			continue
		}
		divisors = append(divisors, d)
		for k%d == 0 {
			k /= d
		}
	}
	return divisors
}
