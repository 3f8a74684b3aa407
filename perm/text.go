package perm

import (
	"strconv"
	"strings"

	"commodatum/api"
)

// Text returns the textual form of p.
func Text(p api.Perm) (string, api.Errno) {
	if !Valid(p) {
		return "", api.ErrForm
	}
	var text strings.Builder
	for _, cycle := range Cycles(p) {
		writeCycle(&text, cycle)
	}
	if text.Len() == 0 {
		return "()", api.OK
	}
	return text.String(), api.OK
}

// Parse returns the permutation of n points whose textual form s is.
func Parse(s string, n int) (api.Perm, api.Errno) {
	p, e := Identity(n)
	if e != api.OK {
		return nil, e
	}
	if !readCycles(p, s) {
		return nil, api.ErrParse
	}
	// Reading is lenient; only the comparison decides which strings belong to the language.
	if text, e := Text(p); e != api.OK || text != s {
		return nil, api.ErrParse
	}
	return p, api.OK
}

// writeCycle appends the textual form of one cycle.
func writeCycle(text *strings.Builder, cycle []int) {
	text.WriteByte('(')
	for i, at := range cycle {
		if i > 0 {
			text.WriteByte(' ')
		}
		text.WriteString(strconv.Itoa(at))
	}
	text.WriteByte(')')
}

// readCycles turns the identity p into the permutation whose textual form s is. It reports false if s
// contains anything but points of p, parentheses and blanks; for other strings p may be anything.
func readCycles(p api.Perm, s string) bool {
	const none = -1
	first, last := none, none
	for i := range len(s) {
		switch c := s[i]; c {
		case '(':
			first, last = none, none
		case ')':
			if first != none {
				p[last] = first
			}
		case ' ':
		default:
			at := int(c) - '0' // a point has one digit, as MaxPoints is less than 10
			if at < 0 || at >= len(p) {
				return false
			}
			if first == none {
				first = at
			} else {
				p[last] = at
			}
			last = at
		}
	}
	return true
}
