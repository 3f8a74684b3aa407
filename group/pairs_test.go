package group_test

import (
	"slices"
	"testing"

	"commodatum/api"
	"commodatum/group"
)

// leastCounts returns for each element of the derived group the least number of commutators of l whose
// product it is.
func leastCounts(l []api.Perm) map[string]int {
	steps := commutators(l)
	one := identity(len(l[0]))
	counts := map[string]int{name(one): 0}
	list := []api.Perm{one}
	for i := 0; i < len(list); i++ {
		for _, step := range steps {
			p := product(list[i], step)
			if _, ok := counts[name(p)]; !ok {
				counts[name(p)] = counts[name(list[i])] + 1
				list = append(list, p)
			}
		}
	}
	return counts
}

// checkPairs fails unless the list has that many pairs of elements of l, and its product is g.
func checkPairs(t *testing.T, l []api.Perm, g api.Perm, count int) {
	t.Helper()
	pairs, e := group.Pairs(l, g)
	if e != api.OK || len(pairs) != count {
		t.Fatalf("Pairs of a group of %d elements and %v = %v, %v; want %d pairs", len(l), g, pairs, e, count)
	}
	p := identity(len(g))
	for _, pair := range pairs {
		if !contains(l, pair[:]) {
			t.Fatalf("Pairs of a group of %d elements and %v = %v", len(l), g, pairs)
		}
		p = product(p, commutator(pair[0], pair[1]))
	}
	if !slices.Equal(p, g) {
		t.Fatalf("Pairs of a group of %d elements and %v = %v with the product %v", len(l), g, pairs, p)
	}
}

// wantNoPairs fails unless the call returned the error and nothing else.
func wantNoPairs(t *testing.T, pairs [][2]api.Perm, e, wanted api.Errno) {
	t.Helper()
	if e != wanted || len(pairs) != 0 {
		t.Fatalf("Pairs = %v, %v; want no pairs, %v", pairs, e, wanted)
	}
}

// P2.5: there is a shortest list for exactly the elements of the derived group.
func TestPairs(t *testing.T) {
	for n := 1; n <= 5; n++ {
		for _, l := range subgroups(n) {
			counts := leastCounts(l)
			for _, g := range l {
				if count, ok := counts[name(g)]; ok {
					checkPairs(t, l, g, count)
				} else {
					pairs, e := group.Pairs(l, g)
					wantNoPairs(t, pairs, e, api.ErrNone)
				}
			}
		}
	}
}

// All even permutations of at least five points are commutators of even ones.
func TestPairsOfEvenPermutations(t *testing.T) {
	for _, n := range []int{6, 7} {
		l := evenPerms(n)
		checkPairs(t, l, identity(n), 0)
		for i := 1; i < len(l); i += len(l) / 12 {
			checkPairs(t, l, l[i], 1)
		}
	}
}

func TestPairsOfAllPermutations(t *testing.T) {
	all := everyPerm(7)
	even := setOf(evenPerms(7))
	checkPairs(t, all, identity(7), 0)
	for i := 1; i < len(all); i += 613 {
		if even[name(all[i])] {
			checkPairs(t, all, all[i], 1)
		} else {
			pairs, e := group.Pairs(all, all[i])
			wantNoPairs(t, pairs, e, api.ErrNone)
		}
	}
}

// The identity has the empty list, in commutative groups and in the trivial one, too.
func TestPairsOfIdentity(t *testing.T) {
	for n := 1; n <= api.MaxPoints; n++ {
		checkPairs(t, []api.Perm{identity(n)}, identity(n), 0)
		cycle := append(identity(n)[1:], 0)
		l := closed(t, cycle)
		checkPairs(t, l, identity(n), 0)
		for _, g := range l[1:] {
			pairs, e := group.Pairs(l, g)
			wantNoPairs(t, pairs, e, api.ErrNone)
		}
	}
}

// R2: the group and the permutation are checked before they are compared.
func TestPairsErrors(t *testing.T) {
	all := everyPerm(3)
	for _, bad := range notPerms() {
		pairs, e := group.Pairs(all, bad)
		wantNoPairs(t, pairs, e, api.ErrForm)
	}
	for _, l := range append(notAlike(), notGroups()...) {
		for _, g := range []api.Perm{nil, {0}, {1, 0}, {0, 1, 2}} {
			pairs, e := group.Pairs(l, g)
			wantNoPairs(t, pairs, e, api.ErrForm)
		}
	}
	turns := []api.Perm{{0, 1, 2}, {1, 2, 0}, {2, 0, 1}}
	for _, g := range []api.Perm{{0}, {0, 1}, {1, 0}, {0, 2, 1}, {1, 0, 2}, {0, 1, 2, 3}, identity(7)} {
		pairs, e := group.Pairs(turns, g)
		wantNoPairs(t, pairs, e, api.ErrArg)
	}
	pairs, e := group.Pairs(turns, api.Perm{1, 2, 0})
	wantNoPairs(t, pairs, e, api.ErrNone)
}
