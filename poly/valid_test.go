package poly_test

import (
	"math"
	"testing"

	"commodatum/api"
	"commodatum/field"
	"commodatum/poly"
)

// sample is a polynomial with the ring to which it belongs, or does not belong.
type sample struct {
	name string
	f    api.Field
	n    int
	p    api.Poly
}

// goodSamples are valid, up to the limits.
func goodSamples() []sample {
	full := make([]int, api.MaxVars)
	for v := range full {
		full[v] = api.MaxPower
	}
	last := make([]int, api.MaxVars)
	last[api.MaxVars-1] = 1
	list := []sample{
		{"MaxVars variables", three, api.MaxVars, api.Poly{{C: 1, E: make([]int, api.MaxVars)}, {C: 2, E: last}, {C: 1, E: full}}},
		{"MaxTerms terms", two, 1, row(1, 0, 1, api.MaxTerms, 0, 3)},
		{"MaxPower", five, 2, api.Poly{term(4, 0, 65535), term(1, 65535, 0), term(2, 65535, 65535)}},
		{"order of exponents", two, 3, api.Poly{term(1, 0, 0, 9), term(1, 0, 1, 0), term(1, 0, 1, 8), term(1, 1, 0, 0)}},
		{"bytes of exponents", two, 1, api.Poly{term(1, 1), term(1, 255), term(1, 256), term(1, 511), term(1, 512)}},
	}
	for _, f := range sampleFields() {
		greatest := field.Order(f) - 1
		list = append(list,
			sample{"no terms", f, 2, nil},
			sample{"no terms, not nil", f, 0, api.Poly{}},
			sample{"no variables", f, 0, api.Poly{{C: greatest}}},
			sample{"no variables, exponents not nil", f, 0, api.Poly{{C: 1, E: []int{}}}},
			sample{"greatest coefficient", f, 1, api.Poly{term(1, 0), term(greatest, 1)}},
		)
	}
	return list
}

// badSamples break one rule each. In most of them the bad term is the last one, after good ones.
func badSamples() []sample {
	good := api.Poly{term(1, 1, 2)}
	list := []sample{
		{"equal terms", three, 2, api.Poly{term(1, 1, 2), term(2, 1, 2)}},
		{"falling terms", three, 2, api.Poly{term(1, 0, 3), term(1, 1, 2), term(2, 1, 1)}},
		{"terms in the order of the last exponent", three, 2, api.Poly{term(1, 1, 0), term(1, 0, 1)}},
		{"equal constants", three, 0, api.Poly{term(1), term(2)}},
		{"too many terms", two, 1, row(1, 0, 1, api.MaxTerms+1, 0, 1)},
		{"too few exponents", three, 2, api.Poly{term(1, 1, 2), term(1, 2)}},
		{"no exponents", three, 2, api.Poly{{C: 1}}},
		{"too many exponents", three, 2, api.Poly{term(1, 1, 2), term(1, 2, 0, 0)}},
		{"exponents without variables", three, 0, api.Poly{term(1, 0)}},
	}
	for _, c := range []int{0, -1, 3, 4, 1<<32 + 1, math.MinInt, math.MaxInt} {
		list = append(list, sample{"coefficient", three, 2, api.Poly{term(1, 1, 2), term(c, 2, 0)}})
	}
	for _, e := range []int{-1, api.MaxPower + 1, 1 << 32, math.MinInt, math.MaxInt} {
		list = append(list,
			sample{"first exponent", three, 2, api.Poly{term(1, e, 0)}},
			sample{"second exponent", three, 2, api.Poly{term(1, 0, 0), term(1, 0, 1), term(1, 1, e)}},
		)
	}
	for _, n := range badNumbers() {
		list = append(list, sample{"number of variables", three, n, good}, sample{"number of variables", three, n, nil})
	}
	for _, f := range notFields() {
		list = append(list, sample{"field", f, 2, good}, sample{"field", f, 2, nil}, sample{"field", f, 0, nil})
	}
	for _, f := range sampleFields() {
		list = append(list, sample{"order as a coefficient", f, 1, api.Poly{term(field.Order(f), 1)}})
	}
	return list
}

func TestValid(t *testing.T) {
	for _, s := range goodSamples() {
		if !poly.Valid(s.f, s.n, s.p) {
			t.Errorf("%s: %v in %d variables over %v is not valid", s.name, brief(s.p), s.n, s.f)
		}
	}
	for _, s := range badSamples() {
		if poly.Valid(s.f, s.n, s.p) {
			t.Errorf("%s: %v in %d variables over %v is valid", s.name, brief(s.p), s.n, s.f)
		}
	}
}

// All functions take what is valid, and 0 and 1 are neutral for it.
func TestNeutral(t *testing.T) {
	for _, s := range goodSamples() {
		c := calculator{t, s.f, s.n}
		one := api.Poly{{C: 1, E: make([]int, s.n)}}
		for i, p := range []api.Poly{c.add(s.p, nil), c.add(nil, s.p), c.mul(s.p, one), c.mul(one, s.p), c.scale(1, s.p)} {
			if !equal(p, s.p) {
				t.Errorf("%s: result %d = %v", s.name, i, brief(p))
			}
		}
		for i, p := range []api.Poly{c.mul(s.p, nil), c.mul(nil, s.p), c.scale(0, s.p)} {
			if len(p) != 0 {
				t.Errorf("%s: product %d with 0 = %v", s.name, i, brief(p))
			}
		}
	}
}
