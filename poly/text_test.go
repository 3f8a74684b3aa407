package poly_test

import (
	"strings"
	"testing"

	"commodatum/api"
	"commodatum/poly"
)

func TestText(t *testing.T) {
	last := make([]int, api.MaxVars)
	last[9], last[10], last[79] = 1, 2, 65535
	for _, s := range []struct {
		f    api.Field
		n    int
		p    api.Poly
		text string
	}{
		{two, 0, nil, "0"},
		{binary, 80, api.Poly{}, "0"},
		{two, 0, api.Poly{{C: 1}}, "1"},
		{binary, 0, api.Poly{{C: 65535}}, "65535"},
		{two, 3, api.Poly{term(1, 0, 0, 0)}, "1"},
		{two, 1, api.Poly{term(1, 1)}, "1*x0"},
		{seven, 1, api.Poly{term(6, 0), term(5, 1), term(1, 2), term(3, 65535)}, "6 + 5*x0 + 1*x0^2 + 3*x0^65535"},
		{two, 2, api.Poly{term(1, 0, 1), term(1, 1, 0), term(1, 1, 1)}, "1*x1 + 1*x0 + 1*x0*x1"},
		{four, 3, api.Poly{term(2, 0, 0, 10), term(3, 4, 0, 1), term(1, 4, 1, 0)}, "2*x2^10 + 3*x0^4*x2 + 1*x0^4*x1"},
		{prime, 80, api.Poly{{C: 65520, E: last}}, "65520*x9*x10^2*x79^65535"},
	} {
		if text := (calculator{t, s.f, s.n}).text(s.p); text != s.text {
			t.Errorf("Text(%v) = %q; want %q", s.p, text, s.text)
		}
	}
}

// longPoly has 40002 bytes of text, less the number of its short coefficients.
func longPoly(short int) api.Poly {
	p := append(api.Poly{term(1, 0)}, row(1, 0, 10000, 2353, 10000, 1)...)
	for i := range short {
		p[1+i].C = 1000
	}
	return p
}

func TestTextLimit(t *testing.T) {
	for length, p := range map[int]api.Poly{
		40000: longPoly(2), 39999: longPoly(3), 40001: longPoly(1), 40002: longPoly(0),
		20000*17 - 3: row(1, 0, 10000, 20000, 10000, 1),
	} {
		text, e := poly.Text(prime, 1, p)
		if length > api.MaxText {
			if e != api.ErrSize || text != "" {
				t.Errorf("text of %d bytes: %d, %v", length, len(text), e)
			}
			continue
		}
		if e != api.OK || len(text) != length || strings.Count(text, " + ") != len(p)-1 {
			t.Errorf("text of %d bytes: %d, %v", length, len(text), e)
		}
	}
}

// The limit counts all of the bytes, also those of a single term.
func TestTextOfLongTerms(t *testing.T) {
	full := make([]int, api.MaxVars)
	for v := range full {
		full[v] = 10000
	}
	var p api.Poly
	for i := range 60 {
		e := append([]int(nil), full...)
		e[0] += i
		p = append(p, api.Term{C: 1, E: e})
		// A variable has 9 or 10 bytes, with its exponent.
		length := (i+1)*(1+10*9+70*10) + i*3
		text, err := poly.Text(two, api.MaxVars, p)
		if length <= api.MaxText && (err != api.OK || len(text) != length) || length > api.MaxText && (err != api.ErrSize || text != "") {
			t.Errorf("text of %d bytes: %d, %v", length, len(text), err)
		}
	}
}

// The examples of the chapter.
func TestExamples(t *testing.T) {
	and := multilinear(t, two, 2, []bool{false, false, false, true})
	or := multilinear(t, two, 2, []bool{false, true, true, true})
	c := calculator{t, two, 2}
	if c.text(and) != "1*x0*x1" || c.text(or) != "1*x1 + 1*x0 + 1*x0*x1" {
		t.Errorf("and is %s, or is %s", c.text(and), c.text(or))
	}
	c.n = 1
	if text := c.text(c.reduce(api.Poly{term(1, 3)})); text != "1*x0" {
		t.Errorf("Reduce of 1*x0^3 is %s", text)
	}
}
