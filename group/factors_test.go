package group

import (
	"slices"
	"testing"

	"commodatum/api"
	"commodatum/perm"
)

// In every group of at most 7 points an element of the derived group is a single commutator, so that Pairs
// itself shows no longer products. Exchanges of two points do: a permutation is a product of as many as the
// points of its cycles without the first of each, and of no fewer.
func TestFactors(t *testing.T) {
	for n := 1; n <= 5; n++ {
		one, _ := perm.Identity(n)
		var steps []api.Perm
		for i := range n {
			for j := range i {
				exchange := slices.Clone(one)
				exchange[i], exchange[j] = j, i
				steps = append(steps, exchange)
			}
		}
		for _, p := range generate(n, steps).elements {
			least := 0
			for _, cycle := range perm.Cycles(p) {
				least += len(cycle) - 1
			}
			list := factors(p, steps)
			product := one
			for _, step := range list {
				product = mul(product, step)
			}
			if len(list) != least || !slices.Equal(product, p) {
				t.Errorf("factors of %v: %v with the product %v; want %d", p, list, product, least)
			}
		}
	}
}
