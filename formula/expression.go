package formula

import (
	"slices"

	"commodatum/api"
	"commodatum/field"
	"commodatum/poly"
)

// ValidExpr reports whether e is an expression over f within the limits.
func ValidExpr(f api.Field, e api.Expr) bool {
	_, ok := measureExpr(f, e)
	return ok
}

// InputsExpr returns 1 more than the greatest index of an EVar, 0 without one, or -1 if e is not valid.
func InputsExpr(f api.Field, e api.Expr) int {
	m, _ := measureExpr(f, e)
	return m.inputs
}

// SizeExpr returns the number of EVar and EConst, or -1 if e is not valid.
func SizeExpr(f api.Field, e api.Expr) int {
	m, _ := measureExpr(f, e)
	return m.size
}

// DepthExpr returns the depth, or -1 if e is not valid.
func DepthExpr(f api.Field, e api.Expr) int {
	m, _ := measureExpr(f, e)
	return m.depth
}

// EvalExpr returns the value of e where the input i has the value x[i].
func EvalExpr(f api.Field, e api.Expr, x []int) (int, api.Errno) {
	m, ok := measureExpr(f, e)
	if !ok {
		return 0, api.ErrForm
	}
	order := field.Order(f)
	isNoElement := func(a int) bool { return a < 0 || a >= order }
	if len(x) < m.inputs || slices.ContainsFunc(x, isNoElement) {
		return 0, api.ErrArg
	}
	return valueOf(f, e, x), api.OK
}

// PolyOf returns the polynomial of e in n variables.
func PolyOf(f api.Field, e api.Expr, n int) (api.Poly, api.Errno) {
	m, ok := measureExpr(f, e)
	if !ok {
		return nil, api.ErrForm
	}
	if n < m.inputs || n > api.MaxVars {
		return nil, api.ErrArg
	}
	return polyOf(f, e, n)
}

// TextExpr returns the textual form of e.
func TextExpr(f api.Field, e api.Expr) (string, api.Errno) {
	if !field.Valid(f) {
		return "", api.ErrForm
	}
	return write(expressions(f), e)
}

// ParseExpr returns the expression whose textual form s is.
func ParseExpr(f api.Field, s string) (api.Expr, api.Errno) {
	if !field.Valid(f) {
		return api.Expr{}, api.ErrForm
	}
	return parse(expressions(f), s)
}

// measureExpr returns the measures of e, and whether f and e are valid.
func measureExpr(f api.Field, e api.Expr) (measures, bool) {
	if !field.Valid(f) {
		return unmeasured(), false
	}
	return expressions(f).measure(e)
}

// valueOf returns the value of the valid expression e.
func valueOf(f api.Field, e api.Expr, x []int) int {
	switch e.Kind {
	case api.EVar:
		return x[e.N]
	case api.EConst:
		return e.N
	}
	a, b := valueOf(f, e.Kids[0], x), valueOf(f, e.Kids[1], x)
	if e.Kind == api.EAdd {
		return add(f, a, b)
	}
	return mul(f, a, b)
}

// polyOf returns the polynomial of the valid expression e.
func polyOf(f api.Field, e api.Expr, n int) (api.Poly, api.Errno) {
	switch e.Kind {
	case api.EVar:
		term := api.Term{C: 1, E: make([]int, n)}
		term.E[e.N] = 1
		return api.Poly{term}, api.OK
	case api.EConst:
		if e.N == 0 {
			return nil, api.OK
		}
		return api.Poly{{C: e.N, E: make([]int, n)}}, api.OK
	}
	p, err := polyOf(f, e.Kids[0], n)
	if err != api.OK {
		return nil, err
	}
	q, err := polyOf(f, e.Kids[1], n)
	if err != api.OK {
		return nil, err
	}
	if e.Kind == api.EAdd {
		return poly.Add(f, n, p, q)
	}
	return poly.Mul(f, n, p, q)
}

// add returns the sum of two elements of f.
func add(f api.Field, a, b int) int {
	sum, _ := field.Add(f, a, b)
	return sum
}

// mul returns the product of two elements of f.
func mul(f api.Field, a, b int) int {
	result, _ := field.Mul(f, a, b)
	return result
}
