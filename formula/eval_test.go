package formula_test

import (
	"math"
	"slices"
	"testing"

	"commodatum/api"
	"commodatum/formula"
)

// pointOf returns the values of n inputs at an index of a table.
func pointOf(index, n int) []bool {
	at := make([]bool, n)
	for i := range at {
		at[i] = index>>i&1 == 1
	}
	return at
}

// Eval and Table are as the kinds are defined, for all small formulas at all points.
func TestSmall(t *testing.T) {
	for _, f := range smallFormulas() {
		table := tableOf(t, f, 2)
		for i := range 4 {
			at := pointOf(i, 2)
			wanted := trueAt(f, at)
			if eval(t, f, at) != wanted || table[i] != wanted {
				t.Fatalf("%s at %v: Eval %v, Table %v", brief(f), at, eval(t, f, at), table[i])
			}
		}
	}
}

// P5.5: Table has the value of Eval at every index, for all permitted numbers of inputs.
func TestTable(t *testing.T) {
	random := source(2)
	for _, f := range append(someFormulas(3), bit(0), bit(1), x(0), x(11), xor(x(10), x(11)), not(x(5)), or(x(6), x(7))) {
		least := numbersOf(f).inputs
		for n := least; n <= api.MaxTable; n++ {
			table := tableOf(t, f, n)
			for range 70 {
				i := random.below(len(table))
				if wanted := trueAt(f, pointOf(i, n)); table[i] != wanted || eval(t, f, pointOf(i, n)) != wanted {
					t.Fatalf("Table(%s, %d) is %v at %d", brief(f), n, table[i], i)
				}
			}
		}
	}
}

// All values of some tables, and the greatest ones.
func TestWholeTables(t *testing.T) {
	random := source(4)
	for n := range api.MaxTable + 1 {
		for _, f := range []api.Formula{bit(0), bit(1), x(max(0, n-1)), random.formula(30, max(1, n)), random.formula(9, max(1, n))} {
			if numbersOf(f).inputs > n {
				continue
			}
			for i, is := range tableOf(t, f, n) {
				if at := pointOf(i, n); is != trueAt(f, at) || is != eval(t, f, at) {
					t.Fatalf("Table(%s, %d) is %v at %d", brief(f), n, is, i)
				}
			}
		}
	}
}

// Each input alone has the bit of the index as its value.
func TestTableOfInputs(t *testing.T) {
	for n := 1; n <= api.MaxTable; n++ {
		for input := range n {
			for i, is := range tableOf(t, x(input), n) {
				if is != (i>>input&1 == 1) {
					t.Fatalf("Table(x%d, %d) is %v at %d", input, n, is, i)
				}
			}
		}
	}
}

// Formulas without FVar have a table for 0 inputs, and need no values.
func TestNoInputs(t *testing.T) {
	for nodes := 1; nodes <= 6; nodes++ {
		for _, f := range allFormulas(nodes, bit(0), bit(1)) {
			wanted := trueAt(f, nil)
			if table := tableOf(t, f, 0); table[0] != wanted || eval(t, f, nil) != wanted || eval(t, f, []bool{}) != wanted {
				t.Fatalf("%s: Table %v, Eval %v", brief(f), table, eval(t, f, nil))
			}
			if table := tableOf(t, f, 3); !slices.Equal(table, repeated(wanted, 8)) {
				t.Fatalf("%s: Table %v", brief(f), table)
			}
		}
	}
}

func TestTableErrors(t *testing.T) {
	formulas := append(someFormulas(5), bit(0), bit(1))
	for i := range api.MaxInputs {
		formulas = append(formulas, x(i))
	}
	for _, f := range formulas {
		least := numbersOf(f).inputs
		for n := -2; n <= 20; n++ {
			table, e := formula.Table(f, n)
			if fits := n >= least && n <= 12; fits != (e == api.OK) || !fits && (e != api.ErrArg || len(table) != 0) {
				t.Errorf("Table(%s, %d) = %d values, %v", brief(f), n, len(table), e)
			}
		}
		for _, n := range []int{math.MinInt, -1 << 32, 1 << 32, 1<<32 + 12, math.MaxInt} {
			if table, e := formula.Table(f, n); e != api.ErrArg || len(table) != 0 {
				t.Errorf("Table(%s, %d) = %d values, %v", brief(f), n, len(table), e)
			}
		}
	}
}

// Eval needs just as many values as there are inputs; more of them do not matter.
func TestEvalLengths(t *testing.T) {
	random := source(6)
	for _, f := range append(someFormulas(7), x(0), x(15), not(x(15)), bit(1)) {
		least := numbersOf(f).inputs
		at := random.bits(least)
		wanted := trueAt(f, at)
		for range 3 {
			longer := append(slices.Clone(at), random.bits(random.below(30))...)
			if eval(t, f, longer) != wanted {
				t.Errorf("Eval(%s, %v) = %v", brief(f), longer, !wanted)
			}
		}
		for length := range least {
			if value, e := formula.Eval(f, repeated(true, length)); e != api.ErrArg || value {
				t.Errorf("Eval of %s with %d values = %v, %v", brief(f), length, value, e)
			}
		}
	}
	// Even an input that does not matter needs a value.
	if value, e := formula.Eval(or(bit(1), x(3)), []bool{true, true, true}); e != api.ErrArg || value {
		t.Errorf("Eval with 3 values = %v, %v", value, e)
	}
}

// The greatest formulas have values, too.
func TestEvalGreat(t *testing.T) {
	random := source(8)
	wide := repeated(x(0), 10000)
	for i := range wide {
		wide[i] = x(random.below(12))
	}
	for _, f := range []api.Formula{
		not(balanced(xor, wide)), balanced(and, wide), balanced(or, wide), nested(not, x(11), api.MaxDepth),
		nested(func(f api.Formula) api.Formula { return xor(f, x(random.below(12))) }, x(11), api.MaxDepth),
	} {
		table := tableOf(t, f, 12)
		for _, i := range []int{0, 1, 63, 64, 1000, 2048, 4094, 4095} {
			at := pointOf(i, 12)
			if wanted := trueAt(f, at); table[i] != wanted || eval(t, f, at) != wanted {
				t.Errorf("%s: Table %v, Eval %v at %d", brief(f), table[i], eval(t, f, at), i)
			}
		}
	}
}

// P5.1: the laws of Boolean algebra, for all formulas of a node or two and for random ones.
func TestLaws(t *testing.T) {
	var some []api.Formula
	for nodes := 1; nodes <= 2; nodes++ {
		some = append(some, allFormulas(nodes, x(0), x(1), x(2), bit(0), bit(1))...)
	}
	for _, a := range some {
		for _, b := range some {
			for _, c := range some {
				checkLaws(t, a, b, c, 3)
			}
		}
	}
	random := source(9)
	for range 300 {
		checkLaws(t, random.formula(20, 8), random.formula(10, 8), random.formula(15, 8), 8)
	}
}

func checkLaws(t *testing.T, a, b, c api.Formula, n int) {
	t.Helper()
	for i, law := range [][2]api.Formula{
		{not(and(a, b)), or(not(a), not(b))},
		{not(or(a, b)), and(not(a), not(b))},
		{not(xor(a, b)), xor(not(a), b)},
		{not(not(a)), a},
		{and(a, b), and(b, a)},
		{or(a, b), or(b, a)},
		{xor(a, b), xor(b, a)},
		{and(a, and(b, c)), and(and(a, b), c)},
		{or(a, or(b, c)), or(or(a, b), c)},
		{xor(a, xor(b, c)), xor(xor(a, b), c)},
		{and(a, or(b, c)), or(and(a, b), and(a, c))},
		{or(a, and(b, c)), and(or(a, b), or(a, c))},
		{and(a, xor(b, c)), xor(and(a, b), and(a, c))},
		{and(a, or(a, b)), a},
		{or(a, and(a, b)), a},
		{and(a, a), a},
		{or(a, a), a},
		{xor(a, a), bit(0)},
		{and(a, not(a)), bit(0)},
		{or(a, not(a)), bit(1)},
		{and(a, bit(1)), a},
		{or(a, bit(0)), a},
		{and(a, bit(0)), bit(0)},
		{or(a, bit(1)), bit(1)},
		{xor(a, bit(0)), a},
		{xor(a, bit(1)), not(a)},
		{xor(a, b), or(and(a, not(b)), and(not(a), b))},
	} {
		if !slices.Equal(tableOf(t, law[0], n), tableOf(t, law[1], n)) {
			t.Fatalf("law %d: %s and %s have different tables", i, brief(law[0]), brief(law[1]))
		}
	}
}

// The example of the chapter, and the other kinds.
func TestKinds(t *testing.T) {
	for _, s := range []struct {
		f      api.Formula
		wanted []bool
	}{
		{xor(x(0), x(1)), []bool{false, true, true, false}},
		{and(x(0), x(1)), []bool{false, false, false, true}},
		{or(x(0), x(1)), []bool{false, true, true, true}},
		{not(x(0)), []bool{true, false, true, false}},
		{x(1), []bool{false, false, true, true}},
		{bit(0), []bool{false, false, false, false}},
		{bit(1), []bool{true, true, true, true}},
	} {
		if table := tableOf(t, s.f, 2); !slices.Equal(table, s.wanted) {
			t.Errorf("Table of %s = %v", brief(s.f), table)
		}
	}
}
