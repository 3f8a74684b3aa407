package formula

import (
	"strconv"
	"strings"

	"commodatum/api"
)

// write returns the textual form of t.
func write[T any](l language[T], t T) (string, api.Errno) {
	if _, ok := l.measure(t); !ok {
		return "", api.ErrForm
	}
	text := l.appendText(nil, t)
	if len(text) > api.MaxText {
		return "", api.ErrSize
	}
	return string(text), api.OK
}

// appendText appends the textual form of t, which is valid.
func (l language[T]) appendText(text []byte, t T) []byte {
	kind, n, kids := l.split(t)
	text = append(text, l.shapes[kind].opening...)
	if len(kids) == 0 {
		return strconv.AppendInt(text, int64(n), 10)
	}
	for i, kid := range kids {
		if i > 0 {
			text = append(text, ", "...)
		}
		text = l.appendText(text, kid)
	}
	return append(text, ')')
}

// parse returns the formula or the expression whose textual form s is.
func parse[T any](l language[T], s string) (t T, e api.Errno) {
	if len(s) > api.MaxText {
		return t, api.ErrParse
	}
	defer func() {
		if recover() != nil {
			e = api.ErrParse // and t is still zero, as only the last statement sets it
		}
	}()
	r := reader{s}
	// There cannot be more than MaxNodes nodes: those with kids take at least 5 bytes each beside their kids, and the
	// others are at most one more than these.
	whole := readNode(l, &r, 1)
	r.end()
	return whole, api.OK
}

// readNode reads a formula or an expression that is nested that deep.
func readNode[T any](l language[T], r *reader, nesting int) T {
	if nesting > api.MaxDepth {
		panic(syntaxError{})
	}
	kind := l.kindOf(r.rest)
	s := l.shapes[kind]
	r.take(s.opening)
	if s.kids == 0 {
		return l.join(kind, r.number(s.numbers), nil)
	}
	kids := make([]T, s.kids)
	for i := range kids {
		if i > 0 {
			r.take(", ")
		}
		kids[i] = readNode(l, r, nesting+1)
	}
	r.take(")")
	return l.join(kind, 0, kids)
}

// kindOf returns the kind of the node with which the text begins.
func (l language[T]) kindOf(text string) int {
	kind := api.FConst // its opening is empty, and any other one that fits is longer
	for k, s := range l.shapes {
		// "xor(" begins as "x" does.
		if strings.HasPrefix(text, s.opening) && len(s.opening) > len(l.shapes[kind].opening) {
			kind = k
		}
	}
	return kind
}

// reader reads a text from its beginning. Where the text is not as it should be, it panics with a syntaxError.
type reader struct{ rest string }

// syntaxError ends the reading of a text that is not in the language.
type syntaxError struct{}

// take reads this word.
func (r *reader) take(word string) {
	rest, ok := strings.CutPrefix(r.rest, word)
	if !ok {
		panic(syntaxError{})
	}
	r.rest = rest
}

// number reads a number below the limit: all the digits that follow.
func (r *reader) number(limit int) int {
	rest := strings.TrimLeft(r.rest, "0123456789")
	digits := r.rest[:len(r.rest)-len(rest)]
	n, err := strconv.Atoi(digits)
	if err != nil || n >= limit || strconv.Itoa(n) != digits {
		panic(syntaxError{})
	}
	r.rest = rest
	return n
}

// end reads nothing, and expects that nothing is left.
func (r *reader) end() {
	if r.rest != "" {
		panic(syntaxError{})
	}
}
