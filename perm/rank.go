package perm

import "commodatum/api"

// Rank returns how many permutations of the same number of points precede p lexicographically.
func Rank(p api.Perm) (int, api.Errno) {
	if !Valid(p) {
		return 0, api.ErrForm
	}
	rank := 0
	for i, at := range p {
		rank += smaller(p[i+1:], at) * factorial(len(p)-1-i)
	}
	return rank, api.OK
}

// Unrank returns the permutation of n points that rank others precede.
func Unrank(n, rank int) (api.Perm, api.Errno) {
	if !fits(n) || rank < 0 || rank >= factorial(n) {
		return nil, api.ErrArg
	}
	var used [api.MaxPoints]bool
	p := make(api.Perm, n)
	for i := range p {
		block := factorial(n - 1 - i)
		p[i] = unused(used, rank/block)
		used[p[i]] = true
		rank %= block
	}
	return p, api.OK
}

// smaller returns how many of the points are less than the limit.
func smaller(points []int, limit int) int {
	count := 0
	for _, at := range points {
		if at < limit {
			count++
		}
	}
	return count
}

// unused returns the point that is not used and that skip such points precede.
func unused(used [api.MaxPoints]bool, skip int) int {
	for at, taken := range used {
		if taken {
			continue
		}
		if skip == 0 {
			return at
		}
		skip--
	}
	return len(used)
}

// factorial returns the number of permutations of n points.
func factorial(n int) int {
	product := 1
	for k := 2; k <= n; k++ {
		product *= k
	}
	return product
}
