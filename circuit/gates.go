package circuit

import "commodatum/api"

// isGate reports whether g is valid in a circuit with that many inputs, and after that many gates.
func isGate(g api.Gate, inputs, earlier int) bool {
	numbers, kids := 1, 0 // how many numbers N may be, and how many kids there are
	switch g.Kind {
	case api.FVar:
		numbers = inputs
	case api.FConst:
		numbers = 2
	case api.FNot:
		kids = 1
	case api.FAnd, api.FOr, api.FXor:
		kids = 2
	default:
		return false
	}
	if g.N < 0 || g.N >= numbers || len(g.Kids) != kids {
		return false
	}
	for _, kid := range g.Kids {
		if kid < 0 || kid >= earlier {
			return false
		}
	}
	return true
}

// steps returns by how much a gate of this kind is deeper than its kids.
func steps(kind int) int {
	switch kind {
	case api.FAnd, api.FOr:
		return 1
	case api.FXor:
		return 2
	}
	return 0
}

// greatest returns the greatest of the numbers of these kids, 0 without kids.
func greatest(numbers []int, kids []int) int {
	most := 0
	for _, kid := range kids {
		most = max(most, numbers[kid])
	}
	return most
}

// withKids returns the gate in new memory, with the kids to which move maps its kids.
func withKids(g api.Gate, move func(kid int) int) api.Gate {
	if len(g.Kids) == 0 {
		return api.Gate{Kind: g.Kind, N: g.N}
	}
	kids := make([]int, len(g.Kids))
	for i, kid := range g.Kids {
		kids[i] = move(kid)
	}
	return api.Gate{Kind: g.Kind, N: g.N, Kids: kids}
}

// joined returns the gates of two valid circuits, and a last one of this kind, whose kids are the last gates of both.
func joined(kind int, first, second []api.Gate) []api.Gate {
	gates := make([]api.Gate, 0, len(first)+len(second)+1)
	for _, g := range first {
		gates = append(gates, withKids(g, func(kid int) int { return kid }))
	}
	for _, g := range second {
		gates = append(gates, withKids(g, func(kid int) int { return len(first) + kid }))
	}
	return append(gates, api.Gate{Kind: kind, Kids: []int{len(first) - 1, len(gates) - 1}})
}
