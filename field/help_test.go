package field_test

import (
	"math"
	"testing"

	"commodatum/api"
	"commodatum/field"
)

// binaryFields are all fields whose characteristic is 2.
func binaryFields() []api.Field {
	var list []api.Field
	for m := 1; m <= 16; m++ {
		list = append(list, api.Field{P: 2, M: m})
	}
	return list
}

// smallFields are all fields of at most that many elements.
func smallFields(order int) []api.Field {
	var list []api.Field
	for _, f := range binaryFields() {
		if 1<<f.M <= order {
			list = append(list, f)
		}
	}
	for p := 3; p <= order; p++ {
		if isPrime(p) {
			list = append(list, api.Field{P: p, M: 1})
		}
	}
	return list
}

// sampleFields are fields of all sizes, with the greatest of each kind.
func sampleFields() []api.Field {
	list := binaryFields()
	for _, p := range []int{3, 5, 7, 11, 13, 31, 127, 251, 257, 4099, 46337, 46349, 65519, 65521} {
		list = append(list, api.Field{P: p, M: 1})
	}
	return list
}

// notFields are arguments that are not valid fields.
func notFields() []api.Field {
	return []api.Field{
		{},
		{P: 2},
		{P: 0, M: 1},
		{P: 1, M: 1},
		{P: -1, M: 1},
		{P: -2, M: 1},
		{P: -7, M: 1},
		{P: 4, M: 1},
		{P: 6, M: 1},
		{P: 9, M: 1},
		{P: 65517, M: 1},
		{P: 251 * 251, M: 1},
		{P: 251 * 257, M: 1},
		{P: 65535, M: 1},
		{P: 65536, M: 1},
		{P: 65537, M: 1},
		{P: 65539, M: 1},
		{P: 1<<32 + 2, M: 1},
		{P: 1<<32 + 7, M: 1},
		{P: 2 - 1<<32, M: 1},
		{P: 1<<61 - 1, M: 1},
		{P: math.MaxInt, M: 1},
		{P: math.MinInt, M: 1},
		{P: 2, M: -1},
		{P: 2, M: 17},
		{P: 2, M: 32},
		{P: 2, M: 64},
		{P: 2, M: 65},
		{P: 2, M: 1<<32 + 1},
		{P: 2, M: math.MaxInt},
		{P: 2, M: math.MinInt},
		{P: 3, M: 0},
		{P: 3, M: 2},
		{P: 3, M: -1},
		{P: 7, M: 64},
		{P: 251, M: 2},
		{P: 65521, M: 0},
		{P: 65521, M: math.MaxInt},
		{P: 4, M: 2},
		{P: -2, M: 2},
		{P: 1, M: 2},
	}
}

// isPrime tries all possible divisors.
func isPrime(n int) bool {
	for d := 2; d*d <= n; d++ {
		if n%d == 0 {
			return false
		}
	}
	return n >= 2
}

// order counts the elements by the definition.
func order(f api.Field) int {
	q := 1
	for range f.M {
		q *= f.P
	}
	return q
}

// someElements are the first and the last elements and some between them, all of a small field.
func someElements(f api.Field) []int {
	q := order(f)
	var list []int
	for a := range q {
		if a < 4 || a >= q-3 || a%(1+q/7) == q/9 {
			list = append(list, a)
		}
	}
	return list
}

// notElements are numbers that are not elements of the field.
func notElements(f api.Field) []int {
	q := order(f)
	return []int{-1, -q, q, q + 1, 2 * q, 1 << 32, 1<<32 + 1, -1 << 32, math.MaxInt, math.MinInt}
}

// calculator computes with the package under test, and fails where that returns an error or no element.
type calculator struct {
	t *testing.T
	f api.Field
}

func (c calculator) element(what string, a int, e api.Errno) int {
	c.t.Helper()
	if e != api.OK || a < 0 || a >= order(c.f) {
		c.t.Fatalf("%v: %s = %d, %v", c.f, what, a, e)
	}
	return a
}

func (c calculator) add(a, b int) int {
	sum, e := field.Add(c.f, a, b)
	return c.element("Add", sum, e)
}

func (c calculator) sub(a, b int) int {
	difference, e := field.Sub(c.f, a, b)
	return c.element("Sub", difference, e)
}

func (c calculator) mul(a, b int) int {
	product, e := field.Mul(c.f, a, b)
	return c.element("Mul", product, e)
}

func (c calculator) inverse(a int) int {
	inverse, e := field.Inverse(c.f, a)
	return c.element("Inverse", inverse, e)
}

func (c calculator) power(a, k int) int {
	power, e := field.Power(c.f, a, k)
	return c.element("Power", power, e)
}

func (c calculator) root(k int) int {
	root, e := field.Root(c.f, k)
	return c.element("Root", root, e)
}

func (c calculator) sum(k, e int) int {
	sum, err := field.Sum(c.f, k, e)
	return c.element("Sum", sum, err)
}

// wantError fails unless the call returned the error and 0.
func wantError(t *testing.T, what string, f api.Field, got int, e, wanted api.Errno) {
	t.Helper()
	if e != wanted || got != 0 {
		t.Errorf("%v: %s = %d, %v; want 0, %v", f, what, got, e, wanted)
	}
}
