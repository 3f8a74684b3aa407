package perm_test

import (
	"slices"
	"strconv"
	"testing"

	"commodatum/api"
)

// everyPerm lists the permutations of n points, built in lexicographic order without the package under test.
func everyPerm(n int) []api.Perm {
	list := []api.Perm{{}}
	for range n {
		var longer []api.Perm
		for _, p := range list {
			for at := range n {
				if !slices.Contains(p, at) {
					longer = append(longer, append(slices.Clone(p), at))
				}
			}
		}
		list = longer
	}
	return list
}

// product composes by the definition: first p, then q.
func product(p, q api.Perm) api.Perm {
	r := make(api.Perm, len(p))
	for i := range p {
		r[i] = q[p[i]]
	}
	return r
}

func identity(n int) api.Perm {
	p := make(api.Perm, n)
	for i := range p {
		p[i] = i
	}
	return p
}

// inverse searches the point that is mapped to each point.
func inverse(p api.Perm) api.Perm {
	r := make(api.Perm, len(p))
	for i := range r {
		r[i] = slices.Index(p, i)
	}
	return r
}

// cycleType lists the lengths of all cycles, sorted.
func cycleType(p api.Perm) []int {
	var lengths []int
	for i := range p {
		least, length := i, 1
		for at := p[i]; at != i; at = p[at] {
			least = min(least, at)
			length++
		}
		if least == i {
			lengths = append(lengths, length)
		}
	}
	slices.Sort(lengths)
	return lengths
}

// cyclesText writes the cycles of at least two points by following each least point.
func cyclesText(p api.Perm) string {
	text, done := "", map[int]bool{}
	for i := range p {
		if done[i] || p[i] == i {
			continue
		}
		cycle := strconv.Itoa(i)
		for at := p[i]; at != i; at = p[at] {
			done[at] = true
			cycle += " " + strconv.Itoa(at)
		}
		text += "(" + cycle + ")"
	}
	if text == "" {
		return "()"
	}
	return text
}

// inversions counts the pairs in the wrong order; its parity is that of the permutation.
func inversions(p api.Perm) int {
	count := 0
	for i := range p {
		for j := range i {
			if p[j] > p[i] {
				count++
			}
		}
	}
	return count
}

// notPerms are arguments that are not valid permutations.
func notPerms() []api.Perm {
	return []api.Perm{
		nil,
		{},
		{1},
		{-1},
		{0, 0},
		{1, 1},
		{0, 2},
		{1, 2, 3},
		{0, 1, -1},
		{2, 0, 2},
		{0, 1, 2, 3, 4, 5, 7},
		{0, 1, 2, 3, 4, 5, 6, 7},
		{0, 1, 2, 3, 4, 5, 6, 0},
		{1 << 62, -1 << 63},
		make(api.Perm, 100000),
	}
}

// want fails unless the call returned the permutation and OK.
func want(t *testing.T, what string, got api.Perm, e api.Errno, wanted api.Perm) {
	t.Helper()
	if e != api.OK || !slices.Equal(got, wanted) {
		t.Fatalf("%s = %v, %v; want %v, OK", what, got, e, wanted)
	}
}

// wantError fails unless the call returned the error and no permutation.
func wantError(t *testing.T, what string, got api.Perm, e, wanted api.Errno) {
	t.Helper()
	if e != wanted || len(got) != 0 {
		t.Errorf("%s = %v, %v; want no permutation, %v", what, got, e, wanted)
	}
}
