package balance

import "slices"

// way leads from a tree down to a part of it.
type way []step

// step is a node on a way: its kind, and the kid to which the way does not lead.
type step struct {
	kind   int
	beside *tree
}

// halved returns a part of t, which is no leaf, and the way to it. Neither the part nor what is beside the way has more
// than two thirds of the leaves.
func halved(t *tree) (*tree, way) {
	larger := func(part *tree) int { return max(part.size, t.size-part.size) }
	var w way
	part := t
	for part.size > 1 {
		next, beside := part.kids[0], part.kids[1]
		if next.size < beside.size {
			next, beside = beside, next
		}
		// A part of more than two thirds has a kid of more than one third; so the way never ends at such a part.
		if larger(next) >= larger(part) {
			break
		}
		w = append(w, step{part.kind, beside})
		part = next
	}
	return part, w
}

// has reports whether a node of this kind is on the way.
func (w way) has(kind int) bool {
	return slices.ContainsFunc(w, func(s step) bool { return s.kind == kind })
}

// off returns the tree with 0 in the place of the part, or nil if that is 0.
func (w way) off() *tree {
	var t *tree
	for _, s := range slices.Backward(w) {
		switch {
		case t != nil:
			t = join(s.kind, t, s.beside)
		case s.kind != product:
			t = s.beside
		}
	}
	return t
}

// on returns a formula's tree with 1 in the place of the part, or nil if that is 1.
func (w way) on() *tree {
	var t *tree
	for _, s := range slices.Backward(w) {
		switch {
		case t != nil:
			t = join(s.kind, t, s.beside)
		case s.kind == product:
			t = s.beside
		case s.kind == difference:
			t = s.beside.not()
		}
	}
	return t
}

// factor returns the product of what is beside the products on the way, or nil if there are none. The tree is the sum
// of what it is with 0 in the place of the part, and of the product of the factor and the part, unless a difference is
// on the way.
func (w way) factor() *tree {
	var t *tree
	for _, s := range w {
		if s.kind == product {
			t = times(t, s.beside)
		}
	}
	return t
}

// condition returns what is true where the part matters, or nil if it always does. A formula's tree is the difference
// of what it is with 0 in the place of the part, and of the product of the condition and the part.
func (w way) condition() *tree {
	t := w.factor()
	for _, s := range w {
		if s.kind == sum {
			t = times(t, s.beside.not())
		}
	}
	return t
}

// times returns the product of a, which may be nil for 1, and b.
func times(a, b *tree) *tree {
	if a == nil {
		return b
	}
	return join(product, a, b)
}
