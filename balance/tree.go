package balance

import (
	"commodatum/api"
	"commodatum/formula"
)

// tree is a formula or an expression in which nothing but inputs is negated. Trees may share memory: all their numbers
// are those of the formula or the expression that shares none. They do not change, but for opposite.
type tree struct {
	kind     int
	n        int // of a variable its index, of an element its value
	kids     [2]*tree
	nodes    int // tooMany stands for all numbers that are greater
	size     int // at most tooMany, too
	depth    int
	opposite *tree // the negation, if it has been asked for
}

// Kinds of trees. Formulas contain no elements, and expressions nothing of the second group.
const (
	variable = iota
	element
	sum     // FOr or EAdd
	product // FAnd or EMul

	notVariable
	difference // FXor
)

// tooMany nodes are in no formula and in no expression.
const tooMany = api.MaxNodes + 1

// leaf returns a tree of one variable or element.
func leaf(kind, n int) *tree {
	nodes := 1
	if kind == notVariable {
		nodes = 2
	}
	return &tree{kind: kind, n: n, nodes: nodes, size: 1}
}

// join returns a tree with these kids.
func join(kind int, a, b *tree) *tree {
	return &tree{
		kind:  kind,
		kids:  [2]*tree{a, b},
		nodes: min(a.nodes+b.nodes+1, tooMany),
		size:  min(a.size+b.size, tooMany),
		depth: max(a.depth, b.depth) + levels(kind),
	}
}

// levels returns how much deeper than its kids a tree is.
func levels(kind int) int {
	if kind == difference {
		return 2
	}
	return 1
}

// not returns the negation of a formula's tree. Size and depth are the same.
func (t *tree) not() *tree {
	if t.opposite == nil {
		t.opposite = t.negation()
		t.opposite.opposite = t
	}
	return t.opposite
}

// negation returns the negation of a formula's tree for the first time.
func (t *tree) negation() *tree {
	a, b := t.kids[0], t.kids[1]
	switch t.kind {
	case variable:
		return leaf(notVariable, t.n)
	case notVariable:
		return leaf(variable, t.n)
	case sum:
		return join(product, a.not(), b.not())
	case product:
		return join(sum, a.not(), b.not())
	}
	return join(difference, a.not(), b)
}

// treeOf returns the tree of a valid formula without FConst, in which xor makes the trees of FXor.
func treeOf(f api.Formula, xor func(a, b *tree) *tree) *tree {
	switch f.Kind {
	case api.FVar:
		return leaf(variable, f.N)
	case api.FNot:
		return treeOf(f.Kids[0], xor).not()
	}
	a, b := treeOf(f.Kids[0], xor), treeOf(f.Kids[1], xor)
	switch f.Kind {
	case api.FAnd:
		return join(product, a, b)
	case api.FOr:
		return join(sum, a, b)
	}
	return xor(a, b)
}

// either returns the FXor of a and b as such.
func either(a, b *tree) *tree {
	return join(difference, a, b)
}

// inOneWay returns the FXor of a and b as one of them without the other, in one way or the other.
func inOneWay(a, b *tree) *tree {
	return join(sum, join(product, a, b.not()), join(product, a.not(), b))
}

// treeOfExpr returns the tree of a valid expression, with the same polynomial, but without needless elements 0 and 1.
func treeOfExpr(e api.Expr) *tree {
	switch e.Kind {
	case api.EVar:
		return leaf(variable, e.N)
	case api.EConst:
		return leaf(element, e.N)
	}
	a, b := treeOfExpr(e.Kids[0]), treeOfExpr(e.Kids[1])
	if e.Kind == api.EAdd {
		switch {
		case a.is(0):
			return b
		case b.is(0):
			return a
		}
		return join(sum, a, b)
	}
	switch {
	case a.is(0), b.is(1):
		return a
	case b.is(0), a.is(1):
		return b
	}
	return join(product, a, b)
}

// is reports whether t is the element n.
func (t *tree) is(n int) bool {
	return t.kind == element && t.n == n
}

// formula returns the tree as a formula in new memory.
func (t *tree) formula() (api.Formula, api.Errno) {
	if t.nodes > api.MaxNodes {
		return api.Formula{}, api.ErrSize
	}
	f := t.copied()
	if !formula.Valid(f) {
		return api.Formula{}, api.ErrSize // as it is nested too deep
	}
	return f, api.OK
}

// copied returns the tree as a formula, however deep it is nested.
func (t *tree) copied() api.Formula {
	switch t.kind {
	case variable:
		return api.Formula{Kind: api.FVar, N: t.n}
	case notVariable:
		return negated(api.Formula{Kind: api.FVar, N: t.n})
	}
	kind := api.FXor
	switch t.kind {
	case sum:
		kind = api.FOr
	case product:
		kind = api.FAnd
	}
	return api.Formula{Kind: kind, Kids: []api.Formula{t.kids[0].copied(), t.kids[1].copied()}}
}

// expr returns the tree as an expression in new memory. Its depth is small, so that only the nodes may be too many.
func (t *tree) expr() (api.Expr, api.Errno) {
	if t.nodes > api.MaxNodes {
		return api.Expr{}, api.ErrSize
	}
	return t.copiedExpr(), api.OK
}

// copiedExpr returns the tree as an expression.
func (t *tree) copiedExpr() api.Expr {
	kind := api.EMul
	switch t.kind {
	case variable:
		return api.Expr{Kind: api.EVar, N: t.n}
	case element:
		return api.Expr{Kind: api.EConst, N: t.n}
	case sum:
		kind = api.EAdd
	}
	return api.Expr{Kind: kind, Kids: []api.Expr{t.kids[0].copiedExpr(), t.kids[1].copiedExpr()}}
}
