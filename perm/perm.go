// Package perm computes with permutations; see shared/doc/01-perm.md.
package perm

import "commodatum/api"

// Valid reports whether p has 1 to MaxPoints points and contains each of them exactly once.
func Valid(p api.Perm) bool {
	if !fits(len(p)) {
		return false
	}
	var seen [api.MaxPoints]bool
	for _, at := range p {
		if at < 0 || at >= len(p) || seen[at] {
			return false
		}
		seen[at] = true
	}
	return true
}

// Identity returns the permutation of n points that maps each point to itself.
func Identity(n int) (api.Perm, api.Errno) {
	if !fits(n) {
		return nil, api.ErrArg
	}
	p := make(api.Perm, n)
	for i := range p {
		p[i] = i
	}
	return p, api.OK
}

// Mul returns the product of p and q: first p, then q.
func Mul(p, q api.Perm) (api.Perm, api.Errno) {
	if e := checkPair(p, q); e != api.OK {
		return nil, e
	}
	return then(p, q), api.OK
}

// Commutator returns the product of the inverse of p, the inverse of q, p and q.
func Commutator(p, q api.Perm) (api.Perm, api.Errno) {
	if e := checkPair(p, q); e != api.OK {
		return nil, e
	}
	return then(then(back(p), back(q)), then(p, q)), api.OK
}

// Inverse returns the permutation whose product with p is the identity.
func Inverse(p api.Perm) (api.Perm, api.Errno) {
	if !Valid(p) {
		return nil, api.ErrForm
	}
	return back(p), api.OK
}

// Power returns the product of k factors p, or of -k inverses if k is negative.
func Power(p api.Perm, k int) (api.Perm, api.Errno) {
	if !Valid(p) {
		return nil, api.ErrForm
	}
	power := make(api.Perm, len(p))
	for cycle := range allCycles(p) {
		// The remainder keeps the work small for every k; it is negative for a negative k.
		shift := k%len(cycle) + len(cycle)
		for i, at := range cycle {
			power[at] = cycle[(i+shift)%len(cycle)]
		}
	}
	return power, api.OK
}

// fits reports whether a permutation may have n points.
func fits(n int) bool { return n >= 1 && n <= api.MaxPoints }

// checkPair returns the error of a function of two permutations of the same points.
func checkPair(p, q api.Perm) api.Errno {
	if !Valid(p) || !Valid(q) {
		return api.ErrForm
	}
	if len(p) != len(q) {
		return api.ErrArg
	}
	return api.OK
}

// then returns the product of two valid permutations of the same points.
func then(p, q api.Perm) api.Perm {
	product := make(api.Perm, len(p))
	for i, at := range p {
		product[i] = q[at]
	}
	return product
}

// back returns the inverse of a valid permutation.
func back(p api.Perm) api.Perm {
	inverse := make(api.Perm, len(p))
	for i, at := range p {
		inverse[at] = i
	}
	return inverse
}
