package poly_test

import (
	"fmt"
	"math"
	"slices"
	"testing"

	"commodatum/api"
	"commodatum/field"
	"commodatum/poly"
)

// outcome is what a call returned.
type outcome struct {
	p     api.Poly
	value int
	text  string
	e     api.Errno
}

func (o outcome) isZero() bool {
	return len(o.p) == 0 && o.value == 0 && o.text == ""
}

func polyOutcome(p api.Poly, e api.Errno) outcome {
	return outcome{p: p, e: e}
}

func intOutcome(value int, e api.Errno) outcome {
	return outcome{value: value, e: e}
}

// call is a function with all of its arguments but for one polynomial over f in n variables.
type call struct {
	name string
	run  func(f api.Field, n int, p api.Poly) outcome
}

// callsWith are all functions with a polynomial, in each place. The other arguments are these.
func callsWith(c int, at []int, l []api.Poly) []call {
	return []call{
		{"Text", func(f api.Field, n int, p api.Poly) outcome {
			text, e := poly.Text(f, n, p)
			return outcome{text: text, e: e}
		}},
		{"Add, first", func(f api.Field, n int, p api.Poly) outcome { return polyOutcome(poly.Add(f, n, p, nil)) }},
		{"Add, second", func(f api.Field, n int, p api.Poly) outcome { return polyOutcome(poly.Add(f, n, nil, p)) }},
		{"Add, both", func(f api.Field, n int, p api.Poly) outcome { return polyOutcome(poly.Add(f, n, p, p)) }},
		{"Mul, first", func(f api.Field, n int, p api.Poly) outcome { return polyOutcome(poly.Mul(f, n, p, nil)) }},
		{"Mul, second", func(f api.Field, n int, p api.Poly) outcome { return polyOutcome(poly.Mul(f, n, nil, p)) }},
		{"Reduce", func(f api.Field, n int, p api.Poly) outcome { return polyOutcome(poly.Reduce(f, n, p)) }},
		{"Degree", func(f api.Field, n int, p api.Poly) outcome { return intOutcome(poly.Degree(f, n, p)) }},
		{"Scale", func(f api.Field, n int, p api.Poly) outcome { return polyOutcome(poly.Scale(f, n, c, p)) }},
		{"Eval", func(f api.Field, n int, p api.Poly) outcome { return intOutcome(poly.Eval(f, n, p, at)) }},
		{"Substitute in", func(f api.Field, n int, p api.Poly) outcome {
			return polyOutcome(poly.Substitute(f, n, p, 1, l))
		}},
		{"Substitute by", func(f api.Field, n int, p api.Poly) outcome {
			return polyOutcome(poly.Substitute(f, 1, api.Poly{term(1, 1)}, n, []api.Poly{p}))
		}},
		{"Substitute by, too many", func(f api.Field, n int, p api.Poly) outcome {
			return polyOutcome(poly.Substitute(f, 1, nil, n, []api.Poly{nil, p}))
		}},
		{"Substitute in and by", func(f api.Field, n int, p api.Poly) outcome {
			return polyOutcome(poly.Substitute(f, n, p, n, []api.Poly{p, p}))
		}},
	}
}

// R2 and R3: a polynomial, a field or a number of variables that is not valid is reported first.
func TestErrForm(t *testing.T) {
	for _, s := range badSamples() {
		calls := callsWith(0, []int{0, 0}, []api.Poly{nil, nil})
		calls = append(calls, callsWith(-1, nil, nil)...)
		calls = append(calls, callsWith(math.MaxInt, []int{-1, 0, 70000}, make([]api.Poly, 3))...)
		for _, c := range calls {
			if got := c.run(s.f, s.n, s.p); got.e != api.ErrForm || !got.isZero() {
				t.Errorf("%s: %s(%v, %d, %v) = %v; want ErrForm", s.name, c.name, s.f, s.n, brief(s.p), got)
			}
		}
	}
}

// Both numbers of variables are checked, and all polynomials before the length of their list.
func TestSubstituteForm(t *testing.T) {
	bad := api.Poly{term(0, 1)}
	for _, n := range badNumbers() {
		p, e := poly.Substitute(two, 0, nil, n, nil)
		wantError(t, "m variables", p, e, api.ErrForm)
		p, e = poly.Substitute(two, n, nil, 0, nil)
		wantError(t, "n variables", p, e, api.ErrForm)
	}
	for count := range 5 {
		l := make([]api.Poly, count)
		for i := range l {
			l[i] = bad
			p, e := poly.Substitute(two, 2, nil, 1, l)
			wantError(t, "a bad polynomial", p, e, api.ErrForm)
			l[i] = nil
		}
		p, e := poly.Substitute(two, 2, nil, 1, l)
		if count == 2 {
			wantPoly(t, "two polynomials", p, e, nil)
		} else {
			wantError(t, "length", p, e, api.ErrArg)
		}
	}
	// The polynomials of l have m variables, not n.
	p, e := poly.Substitute(two, 2, nil, 1, []api.Poly{{term(1, 0, 1)}, nil})
	wantError(t, "two variables for one", p, e, api.ErrForm)
	p, e = poly.Substitute(two, 1, api.Poly{term(1, 0, 1)}, 2, []api.Poly{{term(1, 0, 1)}})
	wantError(t, "two variables for one", p, e, api.ErrForm)
}

func wantError(t *testing.T, what string, p api.Poly, e, wanted api.Errno) {
	t.Helper()
	if e != wanted || len(p) != 0 {
		t.Errorf("%s: %v, %v; want error %v", what, brief(p), e, wanted)
	}
}

// Arguments that do not fit are reported also where they do not matter for the result.
func TestErrArg(t *testing.T) {
	for _, f := range sampleFields() {
		q := field.Order(f)
		for _, bad := range []int{-1, q, q + 1, 1 << 32, math.MinInt, math.MaxInt} {
			for _, p := range []api.Poly{nil, {term(1, 0, 0)}, {term(1, 2, 3)}} {
				r, e := poly.Scale(f, 2, bad, p)
				wantError(t, "Scale", r, e, api.ErrArg)
				for _, at := range [][]int{{bad, 0}, {0, bad}, {bad, bad}, {0, 0, bad}} {
					value, e := poly.Eval(f, 2, p, at)
					if e != api.ErrArg || value != 0 {
						t.Errorf("%v: Eval(%v, %v) = %d, %v", f, p, at, value, e)
					}
				}
			}
		}
		for n := range 4 {
			for length := range 6 {
				value, e := poly.Eval(f, n, nil, make([]int, length))
				if (e != api.OK) != (n != length) || e != api.OK && e != api.ErrArg || value != 0 {
					t.Errorf("%v: Eval with %d values of %d: %d, %v", f, length, n, value, e)
				}
				p, e := poly.Substitute(f, n, nil, 2, make([]api.Poly, length))
				if (e != api.OK) != (n != length) || e != api.OK && e != api.ErrArg || len(p) != 0 {
					t.Errorf("%v: Substitute with %d polynomials of %d: %v, %v", f, length, n, p, e)
				}
			}
		}
	}
}

// ErrArg comes before ErrSize.
func TestErrArgFirst(t *testing.T) {
	great := row(1, 0, 1, 1, 65535, 1)
	p, e := poly.Substitute(two, 1, great, 1, []api.Poly{great, nil})
	wantError(t, "Substitute", p, e, api.ErrArg)
	p, e = poly.Substitute(two, 1, great, 1, nil)
	wantError(t, "Substitute", p, e, api.ErrArg)
}

// resultsOf are the polynomials that functions make of two others.
func resultsOf(t *testing.T, f api.Field, n int, p, q api.Poly) map[string]api.Poly {
	c := calculator{t, f, n}
	l := make([]api.Poly, n)
	for v := range l {
		l[v] = q
	}
	same := make([]api.Poly, n)
	for v := range same {
		same[v] = row(n, v, 1, 1, 1, 1)
	}
	one := api.Poly{{C: 1, E: make([]int, n)}}
	return map[string]api.Poly{
		"p + q": c.add(p, q), "q + p": c.add(q, p), "p + p": c.add(p, p), "p + 0": c.add(p, nil), "0 + p": c.add(nil, p),
		"p * q": c.mul(p, q), "q * p": c.mul(q, p), "p * p": c.mul(p, p), "p * 1": c.mul(p, one), "1 * p": c.mul(one, p),
		"scaled": c.scale(1, p), "scaled by another": c.scale(field.Order(f)-1, q), "reduced": c.reduce(p),
		"substituted": c.substitute(p, l), "by variables": c.substitute(p, same),
	}
}

// R5: the arguments are as before, and no result has memory of an argument or of another term.
func TestMemory(t *testing.T) {
	random := source(9)
	for _, f := range []api.Field{two, three, four, prime, binary} {
		for _, n := range []int{0, 1, 2, 3} {
			p, q := random.poly(f, n, 6, 3), random.poly(f, n, 3, 3)
			oldP, oldQ := clone(p), clone(q)
			first := resultsOf(t, f, n, p, q)
			second := resultsOf(t, f, n, p, q)
			for name, r := range first {
				spoil(t, name, r)
				if !equal(p, oldP) || !equal(q, oldQ) {
					t.Fatalf("%v: %s shares memory with an argument", f, name)
				}
			}
			spoil(t, "p", p)
			spoil(t, "q", q)
			for name, r := range resultsOf(t, f, n, oldP, oldQ) {
				if !equal(r, second[name]) {
					t.Fatalf("%v: %s = %v, and %v after others were changed", f, name, second[name], r)
				}
			}
		}
	}
}

// spoil overwrites all of p, also behind the end of its slices, and fails if a term changes another one.
func spoil(t *testing.T, name string, p api.Poly) {
	t.Helper()
	for i := range p {
		room := p[i].E[:cap(p[i].E)]
		for v := range room {
			room[v] = -1 - i
		}
	}
	for i := range p {
		for _, e := range p[i].E {
			if e != -1-i {
				t.Fatalf("%s: terms share memory", name)
			}
		}
	}
	room := p[:cap(p)]
	for i := range room {
		room[i].C = -1
	}
}

func TestMemoryOfOthers(t *testing.T) {
	p, at, table := api.Poly{term(1, 0, 1), term(2, 1, 1)}, []int{1, 2}, []bool{true, false, false, true}
	l := []api.Poly{{term(1, 1)}, {term(2, 2)}}
	old := fmt.Sprint(p, at, table, l)
	c := calculator{t, three, 2}
	c.eval(p, at)
	c.degree(p)
	c.text(p)
	poly.Valid(three, 2, p)
	poly.Substitute(three, 2, p, 1, l)
	m := multilinear(t, three, 2, table)
	if now := fmt.Sprint(p, at, table, l); now != old {
		t.Errorf("arguments were %s and are %s", old, now)
	}
	again := multilinear(t, three, 2, table)
	spoil(t, "Multilinear", m)
	if !equal(again, multilinear(t, three, 2, table)) {
		t.Error("Multilinear shares memory of results")
	}
}

// R4: it does not matter whether what is empty is nil.
func TestNil(t *testing.T) {
	for _, f := range sampleFields() {
		for _, p := range []api.Poly{nil, {}, {{C: 1}}, {{C: 1, E: []int{}}}} {
			c := calculator{t, f, 0}
			one := []api.Poly{{{C: 1}}, {{C: 1, E: []int{}}}}
			for _, q := range one {
				if !equal(c.mul(p, q), p) || !equal(c.add(p, c.add(q, c.scale(f.P-1, q))), p) {
					t.Errorf("%v: sum or product of %v and %v", f, p, q)
				}
			}
			if !equal(c.substitute(p, nil), p) || !equal(c.substitute(p, []api.Poly{}), p) || !equal(c.reduce(p), p) {
				t.Errorf("%v: Substitute or Reduce of %v", f, p)
			}
			if c.eval(p, nil) != len(p) || c.eval(p, []int{}) != len(p) || c.degree(p) != len(p)-1 {
				t.Errorf("%v: value or degree of %v", f, p)
			}
		}
	}
}

// R1 and R6: every call ends, and has the same result whatever was called before it.
func TestRepeated(t *testing.T) {
	calls := callsWith(1, []int{1, 1}, []api.Poly{{term(1, 1)}, {term(1, 0), term(1, 2)}})
	calls = append(calls, callsWith(math.MinInt, []int{math.MinInt}, nil)...)
	var all []func() string
	for _, s := range slices.Concat(goodSamples(), badSamples()) {
		for _, c := range calls {
			all = append(all, func() string { return fmt.Sprint(c.run(s.f, s.n, s.p)) })
		}
	}
	first := make([]string, len(all))
	for i, run := range all {
		first[i] = run()
	}
	for i := len(all) - 1; i >= 0; i-- {
		if again := all[i](); again != first[i] {
			t.Fatalf("call %d = %.200s and then %.200s", i, first[i], again)
		}
	}
}
