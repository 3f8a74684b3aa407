package circuit

import "commodatum/api"

// withoutDoubleNot returns gates with the same values, of which none is the FNot of an FNot. So a circuit of small depth
// has a small formula, however many FNot follow each other. The lists of kids are those of the argument.
func withoutDoubleNot(gates []api.Gate) []api.Gate {
	plain := make([]api.Gate, len(gates))
	for i, g := range gates {
		plain[i] = g
		if g.Kind != api.FNot {
			continue
		}
		if kid := gates[g.Kids[0]]; kid.Kind == api.FNot {
			plain[i] = plain[kid.Kids[0]]
		}
	}
	return plain
}

// fits reports whether the formula of the last gate is within the limits.
func fits(gates []api.Gate) bool {
	nodes, nesting := make([]int, len(gates)), make([]int, len(gates))
	for i, g := range gates {
		nodes[i], nesting[i] = 1, 1+greatest(nesting, g.Kids)
		for _, kid := range g.Kids {
			nodes[i] = min(nodes[i]+nodes[kid], api.MaxNodes+1) // the true number may be 2^20000
		}
	}
	last := len(gates) - 1
	return nodes[last] <= api.MaxNodes && nesting[last] <= api.MaxDepth
}

// unfolded returns the formula of the gate with this index, in which each kid is replaced by its formula, in new memory.
func unfolded(gates []api.Gate, index int) api.Formula {
	g := gates[index]
	var kids []api.Formula
	for _, kid := range g.Kids {
		kids = append(kids, unfolded(gates, kid))
	}
	return api.Formula{Kind: g.Kind, N: g.N, Kids: kids}
}
