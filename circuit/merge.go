package circuit

import "commodatum/api"

// key is what makes gates equal: the kind, the number and the kids, -1 where there is none.
type key struct{ kind, n, first, second int }

// merger makes a list of gates of which no two are equal.
type merger struct {
	gates []api.Gate
	found map[key]int // where each gate is
}

func newMerger() *merger { return &merger{found: map[key]int{}} }

// add returns the index of a gate that is equal to g, and keeps g if there was none.
func (m *merger) add(g api.Gate) int {
	k := key{g.Kind, g.N, -1, -1}
	if len(g.Kids) > 0 {
		k.first = g.Kids[0]
	}
	if len(g.Kids) > 1 {
		k.second = g.Kids[1]
	}
	at, ok := m.found[k]
	if !ok {
		at = len(m.gates)
		m.gates = append(m.gates, g)
		m.found[k] = at
	}
	return at
}

// addFormula adds gates for the valid formula f, and returns the index of the last one that it needs. This is the last
// one of all if f is the only formula: its gate has all others below it, so that it is equal to none of them.
func (m *merger) addFormula(f api.Formula) int {
	var kids []int
	for _, kid := range f.Kids {
		kids = append(kids, m.addFormula(kid))
	}
	return m.add(api.Gate{Kind: f.Kind, N: f.N, Kids: kids})
}

// slimmed returns, in new memory, the gates of a valid circuit on which the last one depends, without equal ones. No
// gate on which the last one depends can become equal to it, so that it stays the last one.
func slimmed(gates []api.Gate) []api.Gate {
	used := usedGates(gates)
	m := newMerger()
	places := make([]int, len(gates)) // of the gates that are used, among those of m
	for i, g := range gates {
		if used[i] {
			places[i] = m.add(withKids(g, func(kid int) int { return places[kid] }))
		}
	}
	return m.gates
}

// usedGates says on which gates the last one depends. It depends on itself.
func usedGates(gates []api.Gate) []bool {
	used := make([]bool, len(gates))
	last := len(gates) - 1
	used[last] = true
	for i := last; i >= 0; i-- {
		if used[i] {
			for _, kid := range gates[i].Kids {
				used[kid] = true
			}
		}
	}
	return used
}
