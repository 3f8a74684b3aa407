package formula_test

import (
	"slices"
	"strconv"
	"strings"
	"testing"

	"commodatum/api"
	"commodatum/formula"
)

// dialect is a language whose texts are tested.
type dialect struct {
	name          string
	constants     int
	unary, binary []string
	// read parses s and writes the result without the package under test.
	read func(t *testing.T, s string) (string, api.Errno)
}

// dialects are the formulas and the expressions over some fields.
func dialects() []dialect {
	all := []dialect{{"formulas", 2, []string{"not"}, []string{"and", "or", "xor"}, readFormula}}
	for _, f := range []api.Field{two, three, sixteen, prime, binary} {
		read := func(t *testing.T, s string) (string, api.Errno) {
			t.Helper()
			a, e := formula.ParseExpr(f, s)
			if e != api.OK {
				if !isZeroExpr(a) {
					t.Errorf("ParseExpr(%.60q) = %s, %v", s, briefExpr(a), e)
				}
				return "", e
			}
			return writeExpr(a), e
		}
		all = append(all, dialect{"expressions over " + strconv.Itoa(orderOf(f)), orderOf(f), nil, []string{"add", "mul"}, read})
	}
	return all
}

func readFormula(t *testing.T, s string) (string, api.Errno) {
	t.Helper()
	f, e := formula.Parse(s)
	if e != api.OK {
		if !isZero(f) {
			t.Errorf("Parse(%.60q) = %s, %v", s, brief(f), e)
		}
		return "", e
	}
	return writeFormula(f), e
}

// check fails unless s is parsed if it is a text and rejected otherwise. It returns whether it is one.
func (d dialect) check(t *testing.T, s string) bool {
	t.Helper()
	wanted := rewrite(s, d.constants, d.unary, d.binary)
	d.want(t, s, wanted)
	return wanted
}

// want fails unless s is parsed, or rejected.
func (d dialect) want(t *testing.T, s string, wanted bool) {
	t.Helper()
	text, e := d.read(t, s)
	if wanted && (e != api.OK || text != s) || !wanted && (e != api.ErrParse || text != "") {
		t.Fatalf("%s: %.80q (%d bytes): %.80q, %v; want a text: %v", d.name, s, len(s), text, e, wanted)
	}
}

// checkAll checks all sequences of at most that many tokens, and returns how many of them are texts.
func (d dialect) checkAll(t *testing.T, tokens []string, length int) int {
	t.Helper()
	count := 0
	var extend func(s string, left int)
	extend = func(s string, left int) {
		if d.check(t, s) {
			count++
		}
		if left > 0 {
			for _, token := range tokens {
				extend(s+token, left-1)
			}
		}
	}
	extend("", length)
	return count
}

// P5.2: all other strings are rejected, for all short sequences of parts of texts.
func TestSequences(t *testing.T) {
	formulas, expressions := dialects()[0], dialects()[2]
	for _, s := range []struct {
		d      dialect
		tokens []string
		length int
		count  int // of texts
	}{
		{formulas, []string{"x", "0", "1", "5", "(", ")", ",", " ", "not", "and"}, 5, 13},
		{formulas, []string{"x0", "1", "not(", "or(", "xor(", ", ", ")"}, 6, 14},
		{formulas, []string{"x9", "not(", "and(", ", ", ")"}, 7, 8},
		{expressions, []string{"x", "0", "2", "3", "(", ")", ",", " ", "add", "mul"}, 5, 5},
		{expressions, []string{"x1", "2", "add(", "mul(", ", ", ")"}, 6, 19},
	} {
		if count := s.d.checkAll(t, s.tokens, s.length); count != s.count {
			t.Errorf("%s: %d texts of %d parts of %q; want %d", s.d.name, count, s.length, s.tokens, s.count)
		}
	}
}

// samples are texts of all sorts.
func (d dialect) samples() []string {
	texts := []string{"x0", "x1", "x9", "x10", "x15", "0", "1", strconv.Itoa(d.constants - 1), strconv.Itoa(d.constants / 10)}
	for _, name := range d.unary {
		texts = append(texts, name+"(x1)", name+"("+name+"(0))")
	}
	for i, name := range d.binary {
		next := d.binary[(i+1)%len(d.binary)]
		texts = append(texts, name+"(x12, x3)", name+"(1, "+next+"(x0, 0))", name+"("+next+"("+texts[len(texts)-1]+", x11), x8)")
	}
	return texts
}

// P5.2: of all strings that differ from a text by a byte or two, those that are no texts are rejected.
func TestEdits(t *testing.T) {
	alphabet := " ,()x019-+.notadmulrXO\n\t\xff\x00\u00b2"
	for _, d := range dialects() {
		for _, s := range d.samples() {
			if !d.check(t, s) {
				t.Fatalf("%s: the sample %q is no text", d.name, s)
			}
			for at := range len(s) + 1 {
				for i := range alphabet {
					d.check(t, s[:at]+alphabet[i:i+1]+s[at:])
					if at < len(s) {
						d.check(t, s[:at]+alphabet[i:i+1]+s[at+1:])
					}
				}
				for end := at; end <= len(s); end++ {
					d.check(t, s[:at]+s[end:])
					d.check(t, s[:end]+s[at:])
				}
			}
		}
	}
}

// Strings that are almost texts.
func TestAlmost(t *testing.T) {
	strange := []string{
		"", " ", "x", "x ", " x0", "x0 ", "x0\n", "x0\x00", "X0", "x-0", "x+1", "x 1", "x00", "x01", "x015", "x16", "x20", "x99",
		"x100", "x4294967296", "x18446744073709551616", "x18446744073709551617", "x1.0", "x0x1", "x0, x1", "x0)", "(x0)", "()",
		"-0", "-1", "+1", "00", "01", "0x1", "1e0", "1_0", "4294967296", "18446744073709551616", "18446744073709551617", "\u0661",
		"9223372036854775807", "9223372036854775808", "-9223372036854775808", "x9223372036854775808", ", ", ",", ")", "(",
	}
	for _, d := range dialects() {
		for _, s := range strange {
			d.want(t, s, false)
		}
		for _, s := range []string{strconv.Itoa(d.constants), strconv.Itoa(d.constants + 1), "0" + strconv.Itoa(d.constants-1)} {
			d.want(t, s, false)
		}
		for _, name := range d.binary {
			for _, format := range []string{
				"@", "@(", "@()", "@(x0", "@(x0)", "@(x0,", "@(x0, ", "@(x0, )", "@(x0, x1", "@(x0,x1)", "@(x0,  x1)", "@(x0 , x1)", "@( x0, x1)",
				"@(x0, x1 )", "@ (x0, x1)", "@(x0, x1) ", " @(x0, x1)", "@(x0, x1))", "(@(x0, x1))", "@((x0), x1)", "@(x0, x1,)", "@(x0, x1, x2)",
				"@(x0 x1)", "@(, x1)", "@(x0; x1)", "@[x0, x1]", "@x0, x1", "@(x0,\tx1)", "@(x0,\nx1)", "@@(x0, x1)", "@(x0, x1)x2", "@(x0, x1)@(x0, x1)",
				"@(x0, x16)", "@(x16, x0)", "@(x0, 01)", "@(@(x0, x1)", "@(x0, @(x1)", "@(x0, @)", "@(x0, x1), x2", "@(\u00a0x0, x1)",
			} {
				d.want(t, strings.ReplaceAll(format, "@", name), false)
			}
			d.want(t, strings.ToUpper(name)+"(x0, x1)", false)
			d.check(t, name[1:]+"(x0, x1)")
			d.check(t, name[:2]+"(x0, x1)")
		}
		for _, name := range []string{"not", "nor", "neg", "sub", "if", "x", "x0", "0"} {
			d.want(t, name+"(x0, x1)", false)
			d.want(t, name+"(x0)", slices.Contains(d.unary, name))
		}
		// The names of the other language.
		for _, name := range []string{"not", "and", "or", "xor", "add", "mul"} {
			d.want(t, name+"(x0, 1)", slices.Contains(d.binary, name))
		}
	}
}

// P5.2: the text of a formula is as the chapter says, and Parse of it is the formula.
func TestText(t *testing.T) {
	formulas := append(smallFormulas(), someFormulas(10)...)
	for i := range api.MaxInputs {
		formulas = append(formulas, x(i), not(x(i)))
	}
	for _, f := range formulas {
		text, e := formula.Text(f)
		if e != api.OK || text != writeFormula(f) {
			t.Fatalf("Text(%s) = %.200q, %v", brief(f), text, e)
		}
		if again := parse(t, text); !equal(again, f) {
			t.Fatalf("Parse(%.200q) = %s", text, brief(again))
		}
	}
}

func TestTextExpr(t *testing.T) {
	for _, f := range sampleFields() {
		for _, a := range append(smallExprs(f), someExprs(f, 11)...) {
			text, e := formula.TextExpr(f, a)
			if e != api.OK || text != writeExpr(a) {
				t.Fatalf("%v: TextExpr(%s) = %.200q, %v", f, briefExpr(a), text, e)
			}
			if again, e := formula.ParseExpr(f, text); e != api.OK || !equalExpr(again, a) {
				t.Fatalf("%v: ParseExpr(%.200q) = %s, %v", f, text, briefExpr(again), e)
			}
		}
	}
}

// Every element is a constant, and nothing else is.
func TestConstants(t *testing.T) {
	for _, f := range sampleFields() {
		order := orderOf(f)
		for n := range order + 20 {
			s := strconv.Itoa(n)
			a, e := formula.ParseExpr(f, s)
			if n < order && (e != api.OK || !equalExpr(a, number(n))) || n >= order && (e != api.ErrParse || !isZeroExpr(a)) {
				t.Fatalf("%v: ParseExpr(%q) = %v, %v", f, s, a, e)
			}
			if text, e := formula.TextExpr(f, number(n)); n < order && (e != api.OK || text != s) || n >= order && (e != api.ErrForm || text != "") {
				t.Fatalf("%v: TextExpr(%d) = %q, %v", f, n, text, e)
			}
		}
	}
}

// longFormula returns a formula of that kind whose text has that many bytes.
func longFormula(kind, length int) api.Formula {
	part := len(writeFormula(node(kind, x(1), x(1)))) - 4 // beside the kids
	leaves := repeated(x(1), (length+part)/(part+2))
	for i := range length + part - len(leaves)*(part+2) {
		leaves[i] = x(12)
	}
	return balanced(func(f, g api.Formula) api.Formula { return node(kind, f, g) }, leaves)
}

// longExpr is longFormula for expressions.
func longExpr(kind, length int) api.Expr {
	leaves := repeated(in(2), (length+7)/9)
	for i := range length + 7 - 9*len(leaves) {
		leaves[i] = number(100)
	}
	return balanced(func(a, b api.Expr) api.Expr { return exprNode(kind, a, b) }, leaves)
}

func TestTextLimit(t *testing.T) {
	for length := 39990; length <= 40010; length++ {
		for kind := api.FAnd; kind <= api.FXor; kind++ {
			f := longFormula(kind, length)
			checkLength(t, dialects()[0], writeFormula(f), length)
			text, e := formula.Text(f)
			wantLength(t, "Text", text, e, writeFormula(f))
		}
		for kind := api.EAdd; kind <= api.EMul; kind++ {
			a := longExpr(kind, length)
			checkLength(t, dialects()[4], writeExpr(a), length)
			text, e := formula.TextExpr(prime, a)
			wantLength(t, "TextExpr", text, e, writeExpr(a))
		}
	}
	text, e := formula.Text(not(balanced(or, repeated(x(0), 10000))))
	wantLength(t, "Text", text, e, strings.Repeat(" ", 79999))
	text, e = formula.TextExpr(binary, balanced(times, repeated(number(65535), 10000)))
	wantLength(t, "TextExpr", text, e, strings.Repeat(" ", 119993))
}

// checkLength fails unless the text has that many bytes, and is parsed if these are not too many.
func checkLength(t *testing.T, d dialect, text string, length int) {
	t.Helper()
	if len(text) != length {
		t.Fatalf("the text has %d bytes, not %d", len(text), length)
	}
	d.want(t, text, length <= api.MaxText)
}

// wantLength fails unless a function that writes texts returned this one, or ErrSize if it is too long.
func wantLength(t *testing.T, name, text string, e api.Errno, wanted string) {
	t.Helper()
	if len(wanted) > api.MaxText && (e != api.ErrSize || text != "") || len(wanted) <= api.MaxText && (e != api.OK || text != wanted) {
		t.Errorf("%s: %d bytes, %v; want %d bytes", name, len(text), e, len(wanted))
	}
}

// The brackets of a text may be nested MaxDepth - 1 times, which makes MaxDepth levels of nodes.
func TestNestedTexts(t *testing.T) {
	for _, d := range dialects() {
		for _, name := range d.unary {
			for _, depth := range []int{2, 500, 999, 1000, 1001, 1002, 7999, 8000} {
				s := strings.Repeat(name+"(", depth-1) + "1" + strings.Repeat(")", depth-1)
				d.want(t, s, depth <= api.MaxDepth)
			}
		}
		for _, name := range d.binary {
			for _, depth := range []int{2, 500, 999, 1000, 1001, 1002, 4000, 4444} {
				left := strings.Repeat(name+"(", depth-1) + "0" + strings.Repeat(", 1)", depth-1)
				right := strings.Repeat(name+"(0, ", depth-1) + "1" + strings.Repeat(")", depth-1)
				d.want(t, left, depth <= api.MaxDepth)
				d.want(t, right, depth <= api.MaxDepth)
			}
		}
	}
}

// Long strings that are no texts.
func TestLongStrings(t *testing.T) {
	for _, d := range dialects() {
		for _, length := range []int{1000, 39999, 40000, 40001, 1 << 20} {
			for _, part := range []string{
				"(", ")", " ", ",", ", ", "0", "1", "x", "x0", "not(", "and(", "or(", "xor(0, ", "add(", "mul(1, ", "not", "\x00", "\xff", "not(0)", "add(0, 1)",
			} {
				s := strings.Repeat(part, length/len(part)+1)[:length]
				d.want(t, s, false)
				d.want(t, "x"+s[1:], false)
				d.want(t, s[1:]+"0", false)
			}
		}
	}
}
