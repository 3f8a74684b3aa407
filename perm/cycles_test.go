package perm_test

import (
	"slices"
	"testing"

	"commodatum/api"
	"commodatum/perm"
)

// P1.2: the order is the least positive exponent of the identity and the least common multiple of the lengths.
func TestOrder(t *testing.T) {
	for n := 1; n <= api.MaxPoints; n++ {
		for _, p := range everyPerm(n) {
			least, power := 1, p
			for !slices.Equal(power, identity(n)) {
				least, power = least+1, product(power, p)
			}
			multiple := 1
			for slices.ContainsFunc(cycleType(p), func(length int) bool { return multiple%length != 0 }) {
				multiple++
			}
			if order := perm.Order(p); order != least || order != multiple {
				t.Fatalf("Order(%v) = %d; want %d, which is %d", p, order, least, multiple)
			}
		}
	}
}

// P1.2: Power(p, k) is the identity if and only if Order(p) divides k.
func TestOrderDivides(t *testing.T) {
	for _, n := range []int{1, 5, 7} {
		for _, p := range everyPerm(n) {
			order := perm.Order(p)
			for k := -13; k <= 13; k++ {
				q, e := perm.Power(p, k)
				if e != api.OK || slices.Equal(q, identity(n)) != (k%order == 0) {
					t.Fatalf("Power(%v, %d) = %v, %v with order %d", p, k, q, e, order)
				}
			}
		}
	}
}

// P1.3: the parity counts exchanges, is added by products and is even for commutators.
func TestParity(t *testing.T) {
	for n := 1; n <= api.MaxPoints; n++ {
		for _, p := range everyPerm(n) {
			if perm.Parity(p) != inversions(p)%2 {
				t.Fatalf("Parity(%v) = %d", p, perm.Parity(p))
			}
		}
	}
	list := everyPerm(5)
	for _, p := range list {
		for _, q := range list {
			r, _ := perm.Mul(p, q)
			if perm.Parity(r) != (perm.Parity(p)+perm.Parity(q))%2 {
				t.Fatalf("parity of the product of %v and %v", p, q)
			}
			if c, _ := perm.Commutator(p, q); perm.Parity(c) != 0 {
				t.Fatalf("parity of the commutator of %v and %v", p, q)
			}
		}
	}
}

func TestNotValid(t *testing.T) {
	for _, p := range notPerms() {
		if perm.Order(p) != 0 || perm.Parity(p) != -1 || perm.Cycles(p) != nil {
			t.Errorf("%v: Order %d, Parity %d, Cycles %v", p, perm.Order(p), perm.Parity(p), perm.Cycles(p))
		}
	}
}

func TestCycles(t *testing.T) {
	cases := []struct {
		p      api.Perm
		cycles [][]int
	}{
		{api.Perm{0}, nil},
		{identity(7), nil},
		{api.Perm{1, 0}, [][]int{{0, 1}}},
		{api.Perm{2, 0, 1}, [][]int{{0, 2, 1}}},
		{api.Perm{0, 3, 4, 1, 2}, [][]int{{1, 3}, {2, 4}}},
		{api.Perm{5, 6, 2, 4, 3, 1, 0}, [][]int{{0, 5, 1, 6}, {3, 4}}},
		{api.Perm{1, 2, 3, 4, 5, 6, 0}, [][]int{{0, 1, 2, 3, 4, 5, 6}}},
	}
	for _, c := range cases {
		if got := perm.Cycles(c.p); !slices.EqualFunc(got, c.cycles, slices.Equal[[]int]) {
			t.Errorf("Cycles(%v) = %v; want %v", c.p, got, c.cycles)
		}
	}
}

// The cycles contain each moved point once, followed by its image, and begin with rising least points.
func TestCyclesForm(t *testing.T) {
	for n := 1; n <= api.MaxPoints; n++ {
		for _, p := range everyPerm(n) {
			rebuilt, before := identity(n), -1
			for _, cycle := range perm.Cycles(p) {
				if len(cycle) < 2 || slices.Min(cycle) != cycle[0] || cycle[0] <= before {
					t.Fatalf("Cycles(%v) = %v", p, perm.Cycles(p))
				}
				before = cycle[0]
				for i, at := range cycle {
					rebuilt[at] = cycle[(i+1)%len(cycle)]
				}
			}
			if !slices.Equal(rebuilt, p) {
				t.Fatalf("Cycles(%v) = %v", p, perm.Cycles(p))
			}
		}
	}
}

// R5: no two cycles share memory, and p is not changed through them.
func TestCyclesMemory(t *testing.T) {
	p := api.Perm{1, 0, 3, 2, 5, 4}
	first := perm.Cycles(p)
	_ = append(first[0], 9, 9, 9, 9)
	first[0][0] = 9
	if !slices.Equal(first[1], []int{2, 3}) || !slices.Equal(first[2], []int{4, 5}) {
		t.Errorf("cycles share memory: %v", first)
	}
	if again := perm.Cycles(p); !slices.Equal(again[0], []int{0, 1}) || !slices.Equal(p, api.Perm{1, 0, 3, 2, 5, 4}) {
		t.Errorf("Cycles = %v of %v after a result was changed", again, p)
	}
}

// The conjugator is the first of all permutations that fit, in the order of lists.
func TestConjugatorIsFirst(t *testing.T) {
	for n := 1; n <= 5; n++ {
		list := everyPerm(n)
		for _, p := range list {
			first := firstConjugators(p, list)
			for _, q := range list {
				c, e := perm.Conjugator(p, q)
				if wanted, ok := first[[5]int(append(slices.Clone(q), make([]int, 5-n)...))]; ok {
					want(t, "Conjugator", c, e, wanted)
				} else {
					wantError(t, "Conjugator", c, e, api.ErrNone)
				}
			}
		}
	}
}

// firstConjugators finds for each conjugate of p the first c, by trying all of the rising list.
func firstConjugators(p api.Perm, list []api.Perm) map[[5]int]api.Perm {
	first := map[[5]int]api.Perm{}
	for _, c := range list {
		q := product(product(inverse(c), p), c)
		key := [5]int(append(q, make([]int, 5-len(q))...))
		if _, ok := first[key]; !ok {
			first[key] = c
		}
	}
	return first
}

// P1.4: two permutations are conjugate if and only if their cycles have the same lengths.
func TestConjugate(t *testing.T) {
	for _, n := range []int{1, 4, 6, 7} {
		list := everyPerm(n)
		for i := 0; i < len(list); i += 1 + len(list)/100 {
			for j := 0; j < len(list); j += 1 + len(list)/500 {
				p, q := list[i], list[j]
				c, e := perm.Conjugator(p, q)
				if (e == api.OK) != slices.Equal(cycleType(p), cycleType(q)) {
					t.Fatalf("Conjugator(%v, %v) = %v, %v", p, q, c, e)
				}
				if e == api.OK {
					want(t, "conjugate", product(product(inverse(c), p), c), e, q)
				} else {
					wantError(t, "Conjugator", c, e, api.ErrNone)
				}
			}
		}
	}
}
