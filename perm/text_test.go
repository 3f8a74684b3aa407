package perm_test

import (
	"math"
	"slices"
	"strings"
	"testing"

	"commodatum/api"
	"commodatum/perm"
)

func TestTextExamples(t *testing.T) {
	cases := []struct {
		p    api.Perm
		text string
	}{
		{api.Perm{0}, "()"},
		{identity(7), "()"},
		{api.Perm{1, 0}, "(0 1)"},
		{api.Perm{1, 2, 0}, "(0 1 2)"},
		{api.Perm{2, 0, 1}, "(0 2 1)"},
		{api.Perm{0, 3, 4, 1, 2}, "(1 3)(2 4)"},
		{api.Perm{4, 3, 2, 1, 0, 6, 5}, "(0 4)(1 3)(5 6)"},
		{api.Perm{6, 0, 1, 2, 3, 4, 5}, "(0 6 5 4 3 2 1)"},
	}
	for _, c := range cases {
		if text, e := perm.Text(c.p); e != api.OK || text != c.text {
			t.Errorf("Text(%v) = %q, %v; want %q", c.p, text, e, c.text)
		}
		p, e := perm.Parse(c.text, len(c.p))
		want(t, c.text, p, e, c.p)
	}
}

// P1.6: what Text writes is parsed back, and no two permutations of the same points have the same text.
func TestRoundTrip(t *testing.T) {
	for n := 1; n <= api.MaxPoints; n++ {
		texts := map[string]bool{}
		for _, p := range everyPerm(n) {
			text, e := perm.Text(p)
			if e != api.OK || text != cyclesText(p) || texts[text] {
				t.Fatalf("Text(%v) = %q, %v", p, text, e)
			}
			texts[text] = true
			q, e := perm.Parse(text, n)
			want(t, text, q, e, p)
		}
	}
}

// P9: of all short strings exactly the textual forms are accepted.
func TestAllShortStrings(t *testing.T) {
	const signs, longest = "() 0123", 7
	for n := 1; n <= 4; n++ {
		texts := map[string]api.Perm{}
		for _, p := range everyPerm(n) {
			text, _ := perm.Text(p)
			texts[text] = p
		}
		var visit func(s string)
		visit = func(s string) {
			p, e := perm.Parse(s, n)
			if wanted, ok := texts[s]; ok {
				want(t, s, p, e, wanted)
			} else if e != api.ErrParse || len(p) != 0 {
				t.Fatalf("Parse(%q, %d) = %v, %v", s, n, p, e)
			}
			for i := 0; i < len(signs) && len(s) < longest; i++ {
				visit(s + signs[i:i+1])
			}
		}
		visit("")
	}
}

// P9: one changed, missing or additional byte makes another permutation's text or none.
func TestChangedTexts(t *testing.T) {
	for _, p := range everyPerm(5) {
		text, _ := perm.Text(p)
		for i := range len(text) + 1 {
			for b := range 256 {
				checkChanged(t, text[:i]+string([]byte{byte(b)})+text[i:])
				if i < len(text) {
					checkChanged(t, text[:i]+string([]byte{byte(b)})+text[i+1:])
				}
			}
			if i < len(text) {
				checkChanged(t, text[:i]+text[i+1:])
			}
		}
	}
}

func checkChanged(t *testing.T, s string) {
	t.Helper()
	p, e := perm.Parse(s, 5)
	if e == api.OK {
		if text, _ := perm.Text(p); text != s {
			t.Fatalf("Parse(%q) = %v, which is %q", s, p, text)
		}
	} else {
		wantError(t, s, p, e, api.ErrParse)
	}
}

func TestNoTexts(t *testing.T) {
	list := []string{
		"", " ", "x", "(", ")", ")(", "( )", "()()", " ()", "() ", "()\n", "()\x00",
		"(0)", "(0)(1 2)", "(1 2)(0)", "()(1 2)", "(1 2)()", "(1 0)", "(1 2 0)",
		"(0 1", "0 1)", "0 1", "(01)", "(0,1)", "(0\t1)", "(0  1)", "( 0 1)", "(0 1 )", "(0 1) (2 3)",
		"(2 3)(0 1)", "(0 1)(1 2)", "(0 1)(0 1)", "(0 0)", "(0 1 0)", "((0 1))", "(0 (1 2))",
		"(0 7)", "(0 8)", "(0 -1)", "(0 +1)", "(00 1)", "(0 01)", "(0 10)", "(0 1.)", "(0 \u0661)", "(0 \xff)",
		strings.Repeat("(0 1)", 1000), strings.Repeat("(", 100000), strings.Repeat("0 ", 100000),
	}
	for _, s := range list {
		p, e := perm.Parse(s, 7)
		wantError(t, s[:min(len(s), 20)], p, e, api.ErrParse)
	}
	p, e := perm.Parse("(0 3)", 3)
	wantError(t, "(0 3) of 3 points", p, e, api.ErrParse)
	p, e = perm.Parse("(0 1)", 1)
	wantError(t, "(0 1) of 1 point", p, e, api.ErrParse)
}

func TestTextErrors(t *testing.T) {
	for _, p := range notPerms() {
		if text, e := perm.Text(p); e != api.ErrForm || text != "" {
			t.Errorf("Text(%v) = %q, %v", p, text, e)
		}
	}
	// R2: the number of points is checked before the string.
	for _, n := range []int{0, -1, 8, math.MinInt, math.MaxInt} {
		for _, s := range []string{"()", "(0 1)", "x", ""} {
			p, e := perm.Parse(s, n)
			wantError(t, s, p, e, api.ErrArg)
		}
	}
}

// R5: the functions whose results are no permutations leave their argument as it is, too.
func TestArgumentIsKept(t *testing.T) {
	calls := map[string]func(p api.Perm){
		"Valid":  func(p api.Perm) { perm.Valid(p) },
		"Order":  func(p api.Perm) { perm.Order(p) },
		"Parity": func(p api.Perm) { perm.Parity(p) },
		"Cycles": func(p api.Perm) { perm.Cycles(p) },
		"Rank":   func(p api.Perm) { _, _ = perm.Rank(p) },
		"Text":   func(p api.Perm) { _, _ = perm.Text(p) },
	}
	for name, call := range calls {
		for _, given := range append(everyPerm(4), notPerms()...) {
			p := slices.Clone(given)
			call(p)
			if !slices.Equal(p, given) {
				t.Errorf("%s changed its argument %v to %v", name, given, p)
			}
		}
	}
}
