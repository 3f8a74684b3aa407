package formula

import (
	"commodatum/api"
	"commodatum/field"
)

// Arith returns an expression over f that is 1 where g is true and 0 where g is false.
func Arith(f api.Field, g api.Formula) (api.Expr, api.Errno) {
	if !field.Valid(f) || !Valid(g) {
		return api.Expr{}, api.ErrForm
	}
	e := arithmetic{f}.of(g).expr()
	if !ValidExpr(f, e) {
		return api.Expr{}, api.ErrSize
	}
	return e, api.OK
}

// arithmetic makes expressions over a valid field.
type arithmetic struct{ f api.Field }

// affine denotes the sum of start and the product of factor, which is not 0, and core. As start and factor are no part
// of the core, it is negated without any new node.
type affine struct {
	arithmetic
	start, factor int
	core          api.Expr
}

// of returns what is 1 where the valid formula g is true and 0 where it is false. The depth of the core is at most
// twice that of g, and each node of g contributes at most 5 nodes.
func (c arithmetic) of(g api.Formula) affine {
	switch g.Kind {
	case api.FVar:
		return affine{c, 0, 1, api.Expr{Kind: api.EVar, N: g.N}}
	case api.FConst:
		return affine{c, 0, 1, constant(g.N)}
	case api.FNot:
		return c.of(g.Kids[0]).not()
	}
	a, b := c.of(g.Kids[0]), c.of(g.Kids[1])
	switch g.Kind {
	case api.FAnd:
		return a.times(b)
	case api.FOr:
		return a.not().times(b.not()).not()
	}
	return a.xor(b)
}

// not returns 1 less a.
func (a affine) not() affine {
	return a.transform(1, a.minus(1))
}

// xor returns 0 if a and b are the same, and 1 if one is 0 and the other 1.
func (a affine) xor(b affine) affine {
	if a.f.P == 2 {
		// All starts and factors come from 0, 1 and -1, which is 1; so the factors, which are not 0, are 1.
		return affine{a.arithmetic, add(a.f, a.start, b.start), 1, node(api.EAdd, a.core, b.core)}
	}
	// 1 - 2 a is -1 if a is 1, and 1 if it is 0. So the product of two of these is the one of the result.
	half, _ := field.Inverse(a.f, 2)
	return a.sign().times(b.sign()).transform(half, a.minus(half))
}

// sign returns 1 less twice a.
func (a affine) sign() affine {
	return a.transform(1, a.minus(2))
}

// transform returns the sum of start and the product of factor, which is not 0, and a.
func (a affine) transform(start, factor int) affine {
	return affine{a.arithmetic, add(a.f, start, mul(a.f, factor, a.start)), mul(a.f, factor, a.factor), a.core}
}

// times returns the product of a and b.
func (a affine) times(b affine) affine {
	return affine{a.arithmetic, 0, mul(a.f, a.factor, b.factor), node(api.EMul, a.divided(), b.divided())}
}

// divided returns an expression for a divided by its factor.
func (a affine) divided() api.Expr {
	back, _ := field.Inverse(a.f, a.factor)
	return plus(mul(a.f, a.start, back), a.core)
}

// expr returns an expression for a.
func (a affine) expr() api.Expr {
	e := a.core
	if a.factor != 1 {
		e = node(api.EMul, constant(a.factor), e)
	}
	return plus(a.start, e)
}

// minus returns the element whose sum with b is 0.
func (c arithmetic) minus(b int) int {
	difference, _ := field.Sub(c.f, 0, b)
	return difference
}

// plus returns an expression for the sum of the element a and e.
func plus(a int, e api.Expr) api.Expr {
	if a == 0 {
		return e
	}
	return node(api.EAdd, constant(a), e)
}

// constant returns an expression for the element a.
func constant(a int) api.Expr {
	return api.Expr{Kind: api.EConst, N: a}
}

// node returns an expression with these kids.
func node(kind int, a, b api.Expr) api.Expr {
	return api.Expr{Kind: kind, Kids: []api.Expr{a, b}}
}
