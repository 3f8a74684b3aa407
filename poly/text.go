package poly

import (
	"strconv"

	"commodatum/api"
)

// Text returns the textual form of p.
func Text(f api.Field, n int, p api.Poly) (string, api.Errno) {
	if _, e := open(f, n, p); e != api.OK {
		return "", e
	}
	if len(p) == 0 {
		return "0", api.OK
	}
	var text []byte
	for i, t := range p {
		if i > 0 {
			text = append(text, " + "...)
		}
		text = appendTerm(text, t)
		if len(text) > api.MaxText {
			return "", api.ErrSize
		}
	}
	return string(text), api.OK
}

// appendTerm appends the textual form of one term.
func appendTerm(text []byte, t api.Term) []byte {
	text = strconv.AppendInt(text, int64(t.C), 10)
	for v, e := range t.E {
		if e == 0 {
			continue
		}
		text = append(text, "*x"...)
		text = strconv.AppendInt(text, int64(v), 10)
		if e > 1 {
			text = append(text, '^')
			text = strconv.AppendInt(text, int64(e), 10)
		}
	}
	return text
}
