package perm_test

import (
	"math"
	"testing"

	"commodatum/api"
	"commodatum/perm"
)

// P1.5: ranks number the permutations in lexicographic order, from the first to the last.
func TestRank(t *testing.T) {
	for n := 1; n <= api.MaxPoints; n++ {
		for i, p := range everyPerm(n) {
			if rank, e := perm.Rank(p); e != api.OK || rank != i {
				t.Fatalf("Rank(%v) = %d, %v; want %d", p, rank, e, i)
			}
			q, e := perm.Unrank(n, i)
			want(t, "Unrank", q, e, p)
		}
	}
}

func TestRankExamples(t *testing.T) {
	p, e := perm.Unrank(3, 3)
	want(t, "Unrank(3, 3)", p, e, api.Perm{1, 2, 0})
	p, e = perm.Unrank(1, 0)
	want(t, "Unrank(1, 0)", p, e, api.Perm{0})
	p, e = perm.Unrank(7, 0)
	want(t, "Unrank(7, 0)", p, e, identity(7))
	p, e = perm.Unrank(7, 5039)
	want(t, "Unrank(7, 5039)", p, e, api.Perm{6, 5, 4, 3, 2, 1, 0})
}

func TestRankErrors(t *testing.T) {
	for _, p := range notPerms() {
		if rank, e := perm.Rank(p); e != api.ErrForm || rank != 0 {
			t.Errorf("Rank(%v) = %d, %v", p, rank, e)
		}
	}
	count := 1
	for n := 1; n <= api.MaxPoints; n++ {
		count *= n
		for _, rank := range []int{-1, count, count + 1, math.MinInt, math.MaxInt} {
			p, e := perm.Unrank(n, rank)
			wantError(t, "Unrank", p, e, api.ErrArg)
		}
	}
	for _, n := range []int{0, -1, 8, math.MinInt, math.MaxInt} {
		for _, rank := range []int{0, 1, -1, math.MaxInt} {
			p, e := perm.Unrank(n, rank)
			wantError(t, "Unrank", p, e, api.ErrArg)
		}
	}
}
