package field_test

import (
	"math"
	"testing"

	"commodatum/api"
	"commodatum/field"
)

// call is a function of a field, with its arguments.
type call struct {
	name string
	run  func(f api.Field) (int, api.Errno)
}

// callsOf are all functions that return errors, with these numbers as arguments.
func callsOf(a, b int) []call {
	return []call{
		{"Modulus", field.Modulus},
		{"Add", func(f api.Field) (int, api.Errno) { return field.Add(f, a, b) }},
		{"Sub", func(f api.Field) (int, api.Errno) { return field.Sub(f, a, b) }},
		{"Mul", func(f api.Field) (int, api.Errno) { return field.Mul(f, a, b) }},
		{"Inverse", func(f api.Field) (int, api.Errno) { return field.Inverse(f, a) }},
		{"Power", func(f api.Field) (int, api.Errno) { return field.Power(f, a, b) }},
		{"Root", func(f api.Field) (int, api.Errno) { return field.Root(f, a) }},
		{"Sum", func(f api.Field) (int, api.Errno) { return field.Sum(f, a, b) }},
	}
}

func extremes() []int {
	return []int{0, 1, -1, 2, 5, 65535, 65536, -65536, 1 << 32, math.MaxInt, math.MinInt}
}

// R2: a field that is not valid is reported first, whatever the other arguments are.
func TestErrForm(t *testing.T) {
	for _, f := range notFields() {
		for _, a := range extremes() {
			for _, b := range extremes() {
				for _, c := range callsOf(a, b) {
					got, e := c.run(f)
					wantError(t, c.name, f, got, e, api.ErrForm)
				}
			}
		}
	}
}

// Numbers that are not elements are reported, in both places.
func TestNotElements(t *testing.T) {
	for _, f := range append(smallFields(20), sampleFields()...) {
		for _, bad := range notElements(f) {
			for _, other := range append(notElements(f), 0, 1, order(f)-1) {
				for _, c := range append(callsOf(bad, other)[1:4], callsOf(other, bad)[1:4]...) {
					got, e := c.run(f)
					wantError(t, c.name, f, got, e, api.ErrArg)
				}
				power, e := field.Power(f, bad, other)
				wantError(t, "Power", f, power, e, api.ErrArg)
			}
			inverse, e := field.Inverse(f, bad)
			wantError(t, "Inverse", f, inverse, e, api.ErrArg)
		}
	}
}

func TestNegativePower(t *testing.T) {
	for _, f := range append(smallFields(20), sampleFields()...) {
		for _, a := range []int{0, 1, order(f) - 1} {
			for _, k := range []int{-1, -2, 1 - order(f), -1 << 32, math.MinInt} {
				power, e := field.Power(f, a, k)
				wantError(t, "Power", f, power, e, api.ErrArg)
			}
		}
	}
}

// R1 and R6: every call ends, and has the same result whatever was called before it.
func TestRepeated(t *testing.T) {
	type result struct {
		value int
		e     api.Errno
	}
	var all []func() result
	for _, f := range append(sampleFields(), notFields()...) {
		for _, a := range extremes() {
			for _, b := range extremes() {
				for _, c := range callsOf(a, b) {
					all = append(all, func() result {
						value, e := c.run(f)
						return result{value, e}
					})
				}
			}
		}
	}
	first := make([]result, len(all))
	for i, run := range all {
		first[i] = run()
	}
	for i := len(all) - 1; i >= 0; i-- {
		if again := all[i](); again != first[i] {
			t.Fatalf("call %d = %v and then %v", i, first[i], again)
		}
	}
}
