package group

import (
	"slices"

	"commodatum/api"
)

// Normal reports whether all conjugates of elements of sub by elements of l are in sub.
func Normal(l, sub []api.Perm) (bool, api.Errno) {
	g, ok := read(l)
	h, okSub := read(sub)
	if !ok || !okSub {
		return false, api.ErrForm
	}
	for _, p := range h.elements {
		if !g.in.has(p) {
			return false, api.ErrArg
		}
	}
	// If generators keep generators in sub, then all elements of l keep all elements in it.
	for _, c := range g.gens {
		for _, s := range h.gens {
			if !h.in.has(conjugate(s, c)) {
				return false, api.OK
			}
		}
	}
	return true, api.OK
}

// Center returns the elements of l that commute with every element, rising.
func Center(l []api.Perm) ([]api.Perm, api.Errno) {
	g, ok := read(l)
	if !ok {
		return nil, api.ErrForm
	}
	var center []api.Perm
	for _, p := range g.elements {
		// What commutes with the generators commutes with their products, too.
		moves := func(gen api.Perm) bool { return !slices.Equal(mul(p, gen), mul(gen, p)) }
		if !slices.ContainsFunc(g.gens, moves) {
			center = append(center, p)
		}
	}
	return center, api.OK
}

// Classes returns the sets of elements that are conjugate to each other in l, rising by their first elements.
func Classes(l []api.Perm) ([][]api.Perm, api.Errno) {
	g, ok := read(l)
	if !ok {
		return nil, api.ErrForm
	}
	return g.classes(), api.OK
}
