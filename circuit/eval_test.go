package circuit_test

import (
	"slices"
	"testing"

	"commodatum/api"
	"commodatum/circuit"
)

// checkEval checks Eval at these points.
func checkEval(t *testing.T, c api.Circuit, points [][]bool) {
	t.Helper()
	for _, x := range points {
		old := slices.Clone(x)
		if v, e := circuit.Eval(c, x); e != api.OK || v != valueOf(c, x) {
			t.Fatalf("Eval(%s, %v) = %v, %v", brief(c), x, v, e)
		}
		if !slices.Equal(x, old) {
			t.Fatalf("Eval changed %v to %v", old, x)
		}
	}
}

// checkTable checks Table, and returns it.
func checkTable(t *testing.T, c api.Circuit) []bool {
	t.Helper()
	table, e := circuit.Table(c)
	if e != api.OK || len(table) != 1<<c.Inputs {
		t.Fatalf("Table of %s: %d values, %v", brief(c), len(table), e)
	}
	for i, v := range table {
		x := pointAt(i, c.Inputs)
		if w, e := circuit.Eval(c, x); e != api.OK || v != w || v != valueOf(c, x) {
			t.Fatalf("Table of %s is %v at %d, and Eval is %v, %v", brief(c), v, i, w, e)
		}
	}
	return table
}

func TestEval(t *testing.T) {
	for _, c := range smallCircuits() {
		checkEval(t, c, points(c.Inputs, 1))
	}
	for _, c := range someCircuits(2, api.MaxNodes) {
		old := copyOf(c)
		checkEval(t, c, points(c.Inputs, 10*len(c.Gates)))
		wantUnchanged(t, "Eval", old, c)
	}
}

// Each kind at all values of its kids.
func TestKinds(t *testing.T) {
	for kind, want := range map[int][]bool{
		api.FAnd: {false, false, false, true}, api.FOr: {false, true, true, true}, api.FXor: {false, true, true, false},
	} {
		table, e := circuit.Table(circuitOf(2, in(0), in(1), gate(kind, 0, 1)))
		if e != api.OK || !slices.Equal(table, want) {
			t.Errorf("kind %d: %v, %v", kind, table, e)
		}
	}
	for _, example := range []struct {
		c    api.Circuit
		want []bool
	}{
		{circuitOf(0, bit(0)), []bool{false}},
		{circuitOf(0, bit(1)), []bool{true}},
		{circuitOf(0, bit(1), not(0)), []bool{false}},
		{circuitOf(1, in(0)), []bool{false, true}},
		{circuitOf(1, in(0), not(0)), []bool{true, false}},
		{circuitOf(1, in(0), xor(0, 0)), []bool{false, false}},
		{circuitOf(1, bit(1)), []bool{true, true}},
		{circuitOf(2, in(1)), []bool{false, false, true, true}},
		{circuitOf(2, in(0)), []bool{false, true, false, true}},
		{circuitOf(1, in(0), not(0), and(0, 1)), []bool{false, false}}, // example 1
	} {
		if table, e := circuit.Table(example.c); e != api.OK || !slices.Equal(table, example.want) {
			t.Errorf("Table of %s = %v, %v", brief(example.c), table, e)
		}
	}
}

func TestEvalErrors(t *testing.T) {
	for inputs := 0; inputs <= api.MaxInputs; inputs++ {
		c := circuitOf(inputs, bit(1))
		for count := range 40 {
			v, e := circuit.Eval(c, make([]bool, count))
			if count == inputs && (e != api.OK || !v) || count != inputs && (e != api.ErrArg || v) {
				t.Errorf("%d values for %d inputs: %v, %v", count, inputs, v, e)
			}
		}
	}
	if v, e := circuit.Eval(circuitOf(1, bit(1)), make([]bool, 1<<20)); e != api.ErrArg || v {
		t.Error(v, e)
	}
	if v, e := circuit.Eval(circuitOf(0, bit(1)), nil); e != api.OK || !v {
		t.Error(v, e)
	}
}

// P7.3: Table has the value of Eval at every index.
func TestTable(t *testing.T) {
	for _, c := range smallCircuits() {
		checkTable(t, c)
	}
	for _, c := range someCircuits(3, 100) {
		if c.Inputs <= api.MaxTable {
			checkTable(t, c)
		}
	}
	for inputs := range api.MaxTable + 1 {
		for i := range inputs {
			checkTable(t, circuitOf(inputs, in(i)))
			checkTable(t, circuitOf(inputs, in(i), in(inputs-1), not(1), xor(0, 2)))
		}
		checkTable(t, circuitOf(inputs, bit(1)))
		checkTable(t, circuitOf(inputs, bit(1), not(0)))
	}
	random := source(4)
	for _, kinds := range [][]int{{api.FNot, api.FXor, api.FAnd, api.FOr, api.FVar}, {api.FXor, api.FVar}} {
		c := random.circuit(api.MaxNodes, style{4, kinds, 50})
		old := copyOf(c)
		checkTable(t, c)
		wantUnchanged(t, "Table", old, c)
	}
}

// A great circuit with MaxTable inputs takes no long time.
func TestGreatTable(t *testing.T) {
	random := source(5)
	c := random.circuit(api.MaxNodes, style{api.MaxTable, []int{api.FNot, api.FXor, api.FAnd, api.FOr, api.FVar}, 50})
	table, e := circuit.Table(c)
	if e != api.OK || len(table) != 1<<api.MaxTable {
		t.Fatal(len(table), e)
	}
	for i := 0; i < len(table); i += 37 {
		if x := pointAt(i, api.MaxTable); table[i] != valueOf(c, x) {
			t.Fatalf("%v at %v", table[i], x)
		}
	}
}

func TestTableErrSize(t *testing.T) {
	for inputs := api.MaxTable + 1; inputs <= api.MaxInputs; inputs++ {
		for _, c := range []api.Circuit{circuitOf(inputs, bit(1)), circuitOf(inputs, in(0)), circuitOf(inputs, in(inputs-1), not(0))} {
			if table, e := circuit.Table(c); e != api.ErrSize || len(table) != 0 {
				t.Errorf("Table of %s: %d values, %v", brief(c), len(table), e)
			}
			checkEval(t, c, points(inputs, 10))
		}
	}
}
