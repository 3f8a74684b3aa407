package group

import (
	"slices"

	"commodatum/api"
	"commodatum/perm"
)

// Pairs returns a shortest list of pairs of elements of l such that the product of their commutators is g.
func Pairs(l []api.Perm, g api.Perm) ([][2]api.Perm, api.Errno) {
	all, ok := read(l)
	if !ok || !perm.Valid(g) {
		return nil, api.ErrForm
	}
	if !all.in.has(g) {
		return nil, api.ErrArg
	}
	if !all.derived().in.has(g) {
		return nil, api.ErrNone
	}
	numbers, commutators := all.inspect()
	var list [][2]api.Perm
	for _, c := range factors(g, commutators) {
		a, _ := all.firstOfPair(c, numbers)
		b := all.conjugator(a, mul(a, c))
		// Two pairs may contain the same element, but they must not share its memory.
		list = append(list, [2]api.Perm{slices.Clone(a), slices.Clone(b)})
	}
	return list, api.OK
}

// inspect numbers the classes of the group: for each element it returns the number of its class. It also
// returns the commutators of pairs of elements of the group.
func (g closure) inspect() (map[key]int, []api.Perm) {
	numbers := map[key]int{}
	classes := g.classes()
	for i, class := range classes {
		for _, p := range class {
			numbers[keyOf(p)] = i
		}
	}
	var commutators []api.Perm
	for _, class := range classes {
		// A conjugate of a commutator is the commutator of conjugates, so one element decides for its class.
		if _, ok := g.firstOfPair(class[0], numbers); ok {
			commutators = append(commutators, class...)
		}
	}
	return numbers, commutators
}

// firstOfPair returns an element a such that c is the commutator of a and another element, if there is one.
func (g closure) firstOfPair(c api.Perm, numbers map[key]int) (api.Perm, bool) {
	for _, a := range g.elements {
		// The commutator of a and b is the product of the inverse of a and of the conjugate of a by b.
		if numbers[keyOf(a)] == numbers[keyOf(mul(a, c))] {
			return a, true
		}
	}
	return nil, false
}

// conjugator returns the first element b for which the product of the inverse of b, p and b is q.
func (g closure) conjugator(p, q api.Perm) api.Perm {
	for _, b := range g.elements {
		if slices.Equal(mul(p, b), mul(b, q)) {
			return b
		}
	}
	return nil
}

// factors returns a shortest list of steps whose product is g, which is a product of steps.
func factors(g api.Perm, steps []api.Perm) []api.Perm {
	one, _ := perm.Identity(len(g))
	last := map[key]api.Perm{} // the last factor of a shortest product
	in := set{keyOf(one): true}
	found := []api.Perm{one} // in the order of the lengths of their products
	for i := 0; i < len(found) && !in.has(g); i++ {
		for _, step := range steps {
			p := mul(found[i], step)
			if !in.has(p) {
				in[keyOf(p)] = true
				last[keyOf(p)] = step
				found = append(found, p)
			}
		}
	}
	var list []api.Perm
	for p := g; keyOf(p) != keyOf(one); {
		step := last[keyOf(p)]
		list = append(list, step)
		back, _ := perm.Inverse(step)
		p = mul(p, back)
	}
	slices.Reverse(list)
	return list
}
