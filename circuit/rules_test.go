package circuit_test

import (
	"fmt"
	"math"
	"reflect"
	"slices"
	"testing"

	"commodatum/api"
	"commodatum/circuit"
)

// wantForm fails unless a call returned ErrForm, and zero values with it.
func wantForm(t *testing.T, what string, isZero bool, e api.Errno) {
	t.Helper()
	if e != api.ErrForm || !isZero {
		t.Errorf("%s: %v, and zero values: %v", what, e, isZero)
	}
}

// R1 to R3: a circuit that is not valid is reported before everything else.
func TestCircuitErrForm(t *testing.T) {
	good := circuitOf(1, in(0))
	for name, bad := range badCircuits() {
		for _, x := range [][]bool{nil, {true}, make([]bool, 5), make([]bool, 16), make([]bool, 17)} {
			v, e := circuit.Eval(bad, x)
			wantForm(t, "Eval of "+name, !v, e)
		}
		table, e := circuit.Table(bad)
		wantForm(t, "Table of "+name, len(table) == 0, e)
		f, e := circuit.Formula(bad)
		wantForm(t, "Formula of "+name, isZeroFormula(f), e)
		d, e := circuit.Slim(bad)
		wantForm(t, "Slim of "+name, isZero(d), e)
		for _, kind := range []int{api.FAnd, api.FOr, api.FXor, api.FNot, -1, api.FKinds} {
			for i, pair := range [][2]api.Circuit{{bad, good}, {good, bad}, {bad, bad}} {
				d, e := circuit.Both(kind, pair[0], pair[1])
				wantForm(t, fmt.Sprint("Both of ", name, ", ", i), isZero(d), e)
			}
		}
	}
}

// badFormulas are formulas that are not valid, by what is wrong with them.
func badFormulas() map[string]api.Formula {
	endless := []api.Formula{{Kind: api.FNot}}
	endless[0].Kids = endless
	negated := func(f api.Formula) api.Formula { return node(api.FNot, f) }
	doubled := func(f api.Formula) api.Formula { return node(api.FXor, f, f) }
	return map[string]api.Formula{
		"an FVar with N -1":               leaf(-1),
		"an FVar with N 16":               leaf(api.MaxInputs),
		"an FConst with N 2":              constant(2),
		"an FVar with a kid":              node(api.FVar, leaf(0)),
		"an FNot without kids":            node(api.FNot),
		"an FAnd with three kids":         node(api.FAnd, leaf(0), leaf(1), leaf(2)),
		"an FOr with N 1":                 {Kind: api.FOr, N: 1, Kids: []api.Formula{leaf(0), leaf(1)}},
		"an unknown kind 6":               node(api.FKinds, leaf(0), leaf(0)),
		"an unknown kind -1":              node(-1),
		"MaxNodes + 1 nodes":              full(api.MaxNodes/2+1, api.FAnd),
		"MaxDepth + 1 nested":             nested(negated, leaf(0), api.MaxDepth),
		"2^61 - 1 nodes":                  nested(doubled, leaf(0), 60),
		"a list of kids that contains it": endless[0],
		"a kid that is not valid":         node(api.FAnd, leaf(0), leaf(99)),
	}
}

func TestFromErrForm(t *testing.T) {
	for name, f := range badFormulas() {
		for _, inputs := range []int{0, 1, 16, 17, -1, math.MaxInt, math.MinInt} {
			c, e := circuit.From(f, inputs)
			wantForm(t, fmt.Sprint("From of ", name, ", ", inputs), isZero(c), e)
		}
	}
}

// outcome is all that the functions return for a circuit.
type outcome struct {
	isValid, value         bool
	depth                  int
	table                  []bool
	f                      api.Formula
	slim, both, from       api.Circuit
	e1, e2, e3, e4, e5, e6 api.Errno
}

func outcomeOf(c api.Circuit) outcome {
	var o outcome
	o.isValid, o.depth = circuit.Valid(c), circuit.Depth(c)
	o.value, o.e1 = circuit.Eval(c, make([]bool, c.Inputs))
	o.table, o.e2 = circuit.Table(c)
	o.f, o.e3 = circuit.Formula(c)
	o.slim, o.e4 = circuit.Slim(c)
	o.both, o.e5 = circuit.Both(api.FOr, c, c)
	o.from, o.e6 = circuit.From(o.f, api.MaxInputs)
	return o
}

func (o outcome) addTo(t *testing.T, m memory) {
	t.Helper()
	for i := range o.table[:cap(o.table)] {
		m.add(t, &o.table[:cap(o.table)][i])
	}
	m.addFormula(t, o.f)
	m.addCircuit(t, o.slim)
	m.addCircuit(t, o.both)
	m.addCircuit(t, o.from)
}

// R5 and R6: two calls have the same results, in different memory, whatever is called between them.
func TestRepeated(t *testing.T) {
	circuits := someCircuits(15, 300)
	var first []outcome
	m := memory{}
	for _, c := range circuits {
		m.addCircuit(nil, c)
		o := outcomeOf(c)
		o.addTo(t, m)
		first = append(first, o)
	}
	for i, c := range slices.Backward(circuits) {
		old := copyOf(c)
		again := outcomeOf(c)
		again.addTo(t, m)
		if !reflect.DeepEqual(first[i], again) {
			t.Fatalf("%s: %v and then %v", brief(c), first[i], again)
		}
		wantUnchanged(t, "a function", old, c)
	}
}

// Lists of kids that share memory are arguments as all others; results do not share memory.
func TestSharedArguments(t *testing.T) {
	kids := []int{0, 0, 1, 2}
	c := circuitOf(1, in(0), gate(api.FXor, kids[:2]...), gate(api.FAnd, kids[1:3]...), gate(api.FOr, kids[1:3]...), gate(api.FNot, kids[3:]...))
	checkSlim(t, c)
	wantFormula(t, "shared lists", c)
	checkTable(t, c)
	for _, kind := range kinds() {
		both := checkBoth(t, kind, c, c)
		m := memory{}
		m.addCircuit(t, both)
	}
	shared := parsed(t, "xor(x0, not(x1))")
	checkFrom(t, node(api.FAnd, shared, node(api.FOr, shared, shared)), 2)
}

// R4: it does not matter whether what is empty is nil.
func TestNil(t *testing.T) {
	c := circuitOf(2, in(1), bit(1), and(0, 1))
	d := copyOf(c)
	d.Gates[0].Kids, d.Gates[1].Kids = []int{}, make([]int, 0, 5)
	if a, b := outcomeOf(c), outcomeOf(d); !reflect.DeepEqual(a, b) {
		t.Errorf("%v and %v", a, b)
	}
	f := leaf(1)
	f.Kids = make([]api.Formula, 0, 3)
	checkFrom(t, f, 2)
	checkFrom(t, node(api.FNot, f), 2)
	if v, e := circuit.Eval(circuitOf(0, bit(1)), []bool{}); e != api.OK || !v {
		t.Error(v, e)
	}
}
