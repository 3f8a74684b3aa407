package circuit

import "commodatum/api"

// values returns 64 values of the last gate at once: bit j is its value where each input i has as its value bit j of
// x[i].
func values(gates []api.Gate, x []uint64) uint64 {
	words := make([]uint64, len(gates))
	for i, g := range gates {
		words[i] = valuesOf(g, words, x)
	}
	return words[len(words)-1]
}

// valuesOf returns the values of a gate whose kids have their values in words.
func valuesOf(g api.Gate, words, x []uint64) uint64 {
	switch g.Kind {
	case api.FVar:
		return x[g.N]
	case api.FConst:
		return -uint64(g.N) // all bits are N
	case api.FNot:
		return ^words[g.Kids[0]]
	}
	a, b := words[g.Kids[0]], words[g.Kids[1]]
	switch g.Kind {
	case api.FAnd:
		return a & b
	case api.FOr:
		return a | b
	}
	return a ^ b
}

// inputsFrom returns the values of n inputs at the 64 indexes of a table from start on: bit j of element i is bit i of
// the index start + j.
func inputsFrom(start, n int) []uint64 {
	x := make([]uint64, n)
	for i := range x {
		for j := range 64 {
			x[i] |= uint64((start+j)>>i&1) << j
		}
	}
	return x
}
