package balance

import (
	"math/bits"
	"slices"
	"testing"

	"commodatum/api"
	"commodatum/formula"
)

// The depth that Balance permits is at least the one that each tree can be given, for all sizes that there are.
func TestLeastDepth(t *testing.T) {
	for size := 1; size <= api.MaxNodes; size++ {
		least := leastDepth(size)
		if least > depthLimit(size) {
			t.Errorf("size %d: depth %d, limit %d", size, least, depthLimit(size))
		}
		if size > 1 && (least < leastDepth(size-1) || least < leastDepth(size*2/3)+2) {
			t.Errorf("size %d: depth %d", size, least)
		}
	}
	for size, limit := range map[int]int{1: 2, 2: 6, 3: 10, 4: 10, 5: 14, 8: 14, 9: 18, 60: 26, 64: 26, 65: 30, 10000: 58} {
		if depthLimit(size) != limit {
			t.Errorf("the limit for size %d is %d", size, depthLimit(size))
		}
	}
}

// randomTree returns a tree with that many leaves, by numbers that only seem to be random.
func randomTree(seed *uint64, size, skew int, kinds []int) *tree {
	below := func(n int) int {
		*seed = *seed*6364136223846793005 + 1442695040888963407
		high, _ := bits.Mul64(*seed, uint64(n))
		return int(high)
	}
	if size == 1 {
		return leaf([]int{variable, notVariable}[below(2)], below(api.MaxTable))
	}
	left := 1 + below(max(1, (size-1)/skew))
	return join(kinds[below(len(kinds))], randomTree(seed, left, skew, kinds), randomTree(seed, size-left, skew, kinds))
}

// All trees can be given the leastDepth, which is much less than what Balance permits; so the part is chosen by its
// value often enough.
func TestBalancedToLeastDepth(t *testing.T) {
	seed := uint64(1)
	for _, kinds := range [][]int{{sum, product}, {difference}, {difference, product}, {difference, sum}, {sum, product, difference}} {
		for _, skew := range []int{1, 2, 3, 5, 10, 1000} {
			for size := 1; size <= 40; size++ {
				checkBalanced(t, randomTree(&seed, size, skew, kinds))
			}
			for _, size := range []int{64, 100, 150, 400, 700} {
				checkBalanced(t, randomTree(&seed, size, skew, kinds))
			}
		}
	}
}

// checkBalanced balances a tree as far as possible.
func checkBalanced(t *testing.T, whole *tree) {
	t.Helper()
	limit := leastDepth(whole.size)
	result := new(balancer).balanced(whole, limit)
	f, e := whole.formula()
	g, err := result.formula()
	if e != api.OK || err != api.OK && whole.size <= 100 {
		t.Fatalf("size %d: errors %v, %v; %d nodes", whole.size, e, err, result.nodes)
	}
	if err != api.OK {
		return
	}
	a, _ := formula.Table(f, api.MaxTable)
	b, _ := formula.Table(g, api.MaxTable)
	if !slices.Equal(a, b) {
		t.Fatalf("size %d: the table has changed", whole.size)
	}
	if result.depth > limit || formula.Depth(g) != result.depth {
		t.Fatalf("size %d: depth %d, %d; limit %d", whole.size, result.depth, formula.Depth(g), limit)
	}
}

// The part and what is beside the way have at most two thirds of the leaves each.
func TestHalved(t *testing.T) {
	seed := uint64(2)
	for _, skew := range []int{1, 2, 3, 4, 5, 10, 1000} {
		for size := 2; size <= 300; size++ {
			whole := randomTree(&seed, size, skew, []int{sum, product, difference})
			part, w := halved(whole)
			rest := 0
			for _, s := range w {
				rest += s.beside.size
			}
			if len(w) == 0 || part.size+rest != size || max(part.size, rest) > size*2/3 {
				t.Fatalf("size %d: a part of %d, and %d beside it", size, part.size, rest)
			}
		}
	}
}

// The numbers of nodes, the sizes and the depths of trees are those of the formulas, and do not overflow.
func TestTreeNumbers(t *testing.T) {
	seed := uint64(3)
	for size := 1; size < 200; size++ {
		whole := randomTree(&seed, size, 1+size%7, []int{sum, product, difference})
		for _, one := range []*tree{whole, whole.not()} {
			f, e := one.formula()
			if e != api.OK || formula.Size(f) != one.size || formula.Depth(f) != one.depth || nodesOf(f) != one.nodes {
				t.Fatalf("size %d: %d nodes, depth %d; error %v", one.size, one.nodes, one.depth, e)
			}
		}
		if whole.not().not() != whole {
			t.Fatal("two negations make another tree")
		}
	}
	great := leaf(variable, 0)
	for range 200 {
		great = join(product, great, great)
	}
	if great.nodes != tooMany || great.size != tooMany || great.depth != 200 {
		t.Errorf("%d nodes, size %d, depth %d", great.nodes, great.size, great.depth)
	}
}

// nodesOf counts the nodes of a formula.
func nodesOf(f api.Formula) int {
	count := 1
	for _, kid := range f.Kids {
		count += nodesOf(kid)
	}
	return count
}
