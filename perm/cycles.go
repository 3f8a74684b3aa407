package perm

import (
	"iter"

	"commodatum/api"
)

// Order returns the least positive k for which the product of k factors p is the identity, or 0 if p is not valid.
func Order(p api.Perm) int {
	if !Valid(p) {
		return 0
	}
	order := 1
	for cycle := range allCycles(p) {
		order = order / divisor(order, len(cycle)) * len(cycle)
	}
	return order
}

// Parity returns 0 if p is even, 1 if it is odd, and -1 if it is not valid.
func Parity(p api.Perm) int {
	if !Valid(p) {
		return -1
	}
	exchanges := 0
	for cycle := range allCycles(p) {
		exchanges += len(cycle) - 1
	}
	return exchanges % 2
}

// Cycles returns the cycles of at least two points, or nil if p is not valid.
func Cycles(p api.Perm) [][]int {
	if !Valid(p) {
		return nil
	}
	list := [][]int{}
	for cycle := range allCycles(p) {
		if len(cycle) > 1 {
			list = append(list, cycle)
		}
	}
	return list
}

// Conjugator returns the first c for which the product of the inverse of c, p and c is q.
func Conjugator(p, q api.Perm) (api.Perm, api.Errno) {
	if e := checkPair(p, q); e != api.OK {
		return nil, e
	}
	lengths := cycleLengths(q)
	var used [api.MaxPoints]bool
	c := make(api.Perm, len(p))
	// The image of one point determines those of its whole cycle, and every free cycle of the same length
	// leaves equally many for the others; so the least choice at each first point makes c the first of all.
	for cycle := range allCycles(p) {
		to := 0
		for to < len(q) && (used[to] || lengths[to] != len(cycle)) {
			to++
		}
		if to == len(q) {
			return nil, api.ErrNone
		}
		for _, at := range cycle {
			c[at] = to
			used[to] = true
			to = q[to]
		}
	}
	return c, api.OK
}

// allCycles ranges over the cycles of a valid permutation, those of one point included. Each begins with its
// least point, and they are rising by their first points. Each is a slice of its own.
func allCycles(p api.Perm) iter.Seq[[]int] {
	return func(yield func([]int) bool) {
		var seen [api.MaxPoints]bool
		for first := range p {
			if seen[first] {
				continue
			}
			var cycle []int
			for at := first; !seen[at]; at = p[at] {
				seen[at] = true
				cycle = append(cycle, at)
			}
			if !yield(cycle) {
				return
			}
		}
	}
}

// cycleLengths returns for each point of a valid permutation the length of its cycle.
func cycleLengths(p api.Perm) [api.MaxPoints]int {
	var lengths [api.MaxPoints]int
	for cycle := range allCycles(p) {
		for _, at := range cycle {
			lengths[at] = len(cycle)
		}
	}
	return lengths
}

// divisor returns the greatest common divisor of two positive numbers.
func divisor(a, b int) int {
	for b > 0 {
		a, b = b, a%b
	}
	return a
}
