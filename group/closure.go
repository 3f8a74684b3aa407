package group

import (
	"slices"

	"commodatum/api"
	"commodatum/perm"
)

// key is a valid permutation as a key of maps, filled up with zeros. Permutations of different numbers of
// points have different keys, as each contains its number of points less 1 and nothing greater.
type key [api.MaxPoints]int

// set is a set of valid permutations.
type set map[key]bool

// closure is the least group that contains some permutations.
type closure struct {
	gens     []api.Perm // some of these permutations: few, but they generate the group
	elements []api.Perm // rising
	in       set
}

// keyOf returns the key of a valid permutation.
func keyOf(p api.Perm) key {
	var k key
	copy(k[:], p)
	return k
}

// has reports whether a valid permutation belongs to the set.
func (s set) has(p api.Perm) bool { return s[keyOf(p)] }

// alike reports whether the list consists of 1 to MaxOrder valid permutations of the same number of points.
func alike(list []api.Perm) bool {
	if len(list) == 0 || len(list) > api.MaxOrder {
		return false
	}
	for _, p := range list {
		if len(p) != len(list[0]) || !perm.Valid(p) {
			return false
		}
	}
	return true
}

// read returns the group whose list of elements is l, in new memory, or reports false if l is no group.
func read(l []api.Perm) (closure, bool) {
	if !alike(l) {
		return closure{}, false
	}
	g := generate(len(l[0]), l)
	// Only a group is its own closure, and only a rising list is equal to the closure's elements.
	if !slices.EqualFunc(g.elements, l, slices.Equal[api.Perm]) {
		return closure{}, false
	}
	return g, true
}

// generate returns the least group that contains all of list, which are valid permutations of that many points.
func generate(points int, list []api.Perm) closure {
	one, _ := perm.Identity(points)
	g := closure{elements: []api.Perm{one}, in: set{keyOf(one): true}}
	for _, p := range list {
		if g.in.has(p) {
			continue
		}
		g.gens = append(g.gens, p)
		// The new group has at least twice as many elements as the one before, so it is cheap to begin again.
		g.elements, g.in = spread([]api.Perm{one}, func(q api.Perm, add func(api.Perm)) {
			for _, gen := range g.gens {
				add(mul(q, gen))
			}
		})
	}
	slices.SortFunc(g.elements, slices.Compare[api.Perm])
	return g
}

// spread returns the permutations of start and all that next adds for one of them or for an added one: each
// once, in the order in which they are found.
func spread(start []api.Perm, next func(p api.Perm, add func(api.Perm))) ([]api.Perm, set) {
	var list []api.Perm
	in := set{}
	add := func(p api.Perm) {
		if !in.has(p) {
			in[keyOf(p)] = true
			list = append(list, p)
		}
	}
	for _, p := range start {
		add(p)
	}
	for i := 0; i < len(list); i++ {
		next(list[i], add)
	}
	return list, in
}

// conjugates returns the permutations of start and all their conjugates by elements of the group.
func (g closure) conjugates(start []api.Perm) []api.Perm {
	// Conjugation by an element is repeated conjugation by generators.
	list, _ := spread(start, func(p api.Perm, add func(api.Perm)) {
		for _, gen := range g.gens {
			add(conjugate(p, gen))
		}
	})
	return list
}

// derived returns the least group that contains all commutators of elements of the group.
func (g closure) derived() closure {
	var list []api.Perm
	for _, p := range g.gens {
		for _, q := range g.gens {
			c, _ := perm.Commutator(p, q)
			list = append(list, c)
		}
	}
	// Commutators of products are products of conjugates of commutators, so those of generators suffice.
	return generate(len(g.elements[0]), g.conjugates(list))
}

// classes returns the sets of conjugate elements, each rising, and rising by their first elements.
func (g closure) classes() [][]api.Perm {
	var list [][]api.Perm
	done := set{}
	for _, p := range g.elements {
		if done.has(p) {
			continue
		}
		class := g.conjugates([]api.Perm{p})
		for _, q := range class {
			done[keyOf(q)] = true
		}
		slices.SortFunc(class, slices.Compare[api.Perm])
		list = append(list, class)
	}
	return list
}

// mul returns the product of two valid permutations of the same number of points.
func mul(p, q api.Perm) api.Perm {
	product, _ := perm.Mul(p, q)
	return product
}

// conjugate returns the product of the inverse of c, p and c.
func conjugate(p, c api.Perm) api.Perm {
	back, _ := perm.Inverse(c)
	return mul(mul(back, p), c)
}
