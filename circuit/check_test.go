package circuit_test

import (
	"fmt"
	"testing"

	"commodatum/api"
	"commodatum/circuit"
	"commodatum/formula"
)

// checkFrom checks all that the chapter says of From of f, and returns the circuit.
func checkFrom(t *testing.T, f api.Formula, inputs int) api.Circuit {
	t.Helper()
	old := copyOfFormula(f)
	c, e := circuit.From(f, inputs)
	if e != api.OK {
		t.Fatalf("From(%s, %d) = %s, %v", briefFormula(f), inputs, brief(c), e)
	}
	what := fmt.Sprintf("From(%s, %d)", briefFormula(f), inputs)
	wantInputs(t, what, inputs, c)
	wantSameValue(t, what, f, c)
	if len(c.Gates) > nodesOf(f) || depthOf(c) > formula.Depth(f) {
		t.Fatalf("%s = %s: depth %d; %d nodes, depth %d", what, brief(c), depthOf(c), nodesOf(f), formula.Depth(f))
	}
	if !equalFormula(f, old) {
		t.Fatalf("%s changed %s to %s", what, briefFormula(old), briefFormula(f))
	}
	m := memory{}
	m.addFormula(nil, f)
	m.addCircuit(t, c)
	return c
}

// checkFormula checks all that the chapter says of Formula of c, and returns the formula and the error.
func checkFormula(t *testing.T, c api.Circuit) (api.Formula, api.Errno) {
	t.Helper()
	old := copyOf(c)
	f, e := circuit.Formula(c)
	if e == api.ErrSize && isZeroFormula(f) && depthOf(c) > 8 && !unfolds(c) {
		return f, e
	}
	if e != api.OK {
		t.Fatalf("Formula of %s: %v", brief(c), e)
	}
	wantSameValue(t, "Formula", f, c)
	if formula.Depth(f) > depthOf(c) {
		t.Fatalf("Formula of %s = %s: depth %d", brief(c), briefFormula(f), formula.Depth(f))
	}
	wantUnchanged(t, "Formula", old, c)
	m := memory{}
	m.addCircuit(nil, c)
	m.addFormula(t, f)
	return f, e
}

// checkSlim checks all that the chapter says of Slim of c, and returns the circuit.
func checkSlim(t *testing.T, c api.Circuit) api.Circuit {
	t.Helper()
	old := copyOf(c)
	d, e := circuit.Slim(c)
	if e != api.OK {
		t.Fatalf("Slim of %s = %s, %v", brief(c), brief(d), e)
	}
	wantValue(t, "Slim", c, d)
	if len(d.Gates) > len(c.Gates) || depthOf(d) > depthOf(c) {
		t.Fatalf("Slim of %s = %s: depth %d of %d", brief(c), brief(d), depthOf(d), depthOf(c))
	}
	wantSlim(t, d)
	wantUnchanged(t, "Slim", old, c)
	m := memory{}
	m.addCircuit(nil, c)
	m.addCircuit(t, d)
	return d
}

// wantSlim fails unless each gate except the last one is a kid of a later one, and no two are equal.
func wantSlim(t *testing.T, c api.Circuit) {
	t.Helper()
	isKid := make([]bool, len(c.Gates))
	texts := map[string]int{}
	for i, g := range c.Gates {
		text := fmt.Sprint(g.Kind, g.N, g.Kids)
		if earlier, ok := texts[text]; ok {
			t.Fatalf("the gates %d and %d of %s are equal", earlier, i, brief(c))
		}
		texts[text] = i
		for _, kid := range g.Kids {
			isKid[kid] = true
		}
	}
	for i, is := range isKid {
		if isLast := i == len(isKid)-1; is == isLast {
			t.Fatalf("the gate %d of %s is not used", i, brief(c))
		}
	}
}

// checkBoth checks all that the chapter says of Both of c and d, and returns the circuit.
func checkBoth(t *testing.T, kind int, c, d api.Circuit) api.Circuit {
	t.Helper()
	old, oldToo := copyOf(c), copyOf(d)
	both, e := circuit.Both(kind, c, d)
	what := fmt.Sprintf("Both(%d, %s, %s)", kind, brief(c), brief(d))
	if e != api.OK {
		t.Fatalf("%s = %s, %v", what, brief(both), e)
	}
	wantInputs(t, what, c.Inputs, both)
	if len(both.Gates) > len(c.Gates)+len(d.Gates)+1 {
		t.Fatalf("%s = %s", what, brief(both))
	}
	for _, x := range points(c.Inputs, len(both.Gates)) {
		v, w := valueOf(c, x), valueOf(d, x)
		want := map[int]bool{api.FAnd: v && w, api.FOr: v || w, api.FXor: v != w}[kind]
		if valueOf(both, x) != want {
			t.Fatalf("%s = %s: value %v at %v", what, brief(both), !want, x)
		}
	}
	wantUnchanged(t, what, old, c)
	wantUnchanged(t, what, oldToo, d)
	m := memory{}
	m.addCircuit(nil, c)
	m.addCircuit(nil, d)
	m.addCircuit(t, both)
	return both
}

func wantUnchanged(t *testing.T, what string, old, c api.Circuit) {
	t.Helper()
	if !equal(c, old) {
		t.Fatalf("%s changed %s to %s", what, brief(old), brief(c))
	}
}

// memory is where slices have their elements, also those behind the end of the slices.
type memory map[any]bool

// addCircuit adds the lists of a circuit, and fails if some of their memory is met again, unless t is nil.
func (m memory) addCircuit(t *testing.T, c api.Circuit) {
	room := c.Gates[:cap(c.Gates)]
	for i := range room {
		m.add(t, &room[i])
	}
	for _, g := range c.Gates {
		kids := g.Kids[:cap(g.Kids)]
		for i := range kids {
			m.add(t, &kids[i])
		}
	}
}

// addFormula is addCircuit for the lists of a formula.
func (m memory) addFormula(t *testing.T, f api.Formula) {
	room := f.Kids[:cap(f.Kids)]
	for i := range room {
		m.add(t, &room[i])
	}
	for _, kid := range f.Kids {
		m.addFormula(t, kid)
	}
}

func (m memory) add(t *testing.T, place any) {
	if t != nil && m[place] {
		t.Fatal("memory is shared")
	}
	m[place] = true
}
