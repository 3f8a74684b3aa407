package field

import "commodatum/api"

// operations is what all fields have in common. Its arguments are elements.
type operations interface {
	order() int
	add(a, b int) int
	sub(a, b int) int
	mul(a, b int) int
}

// open returns the operations of f, or the error of a function of f and these elements.
func open(f api.Field, elements ...int) (operations, api.Errno) {
	if !Valid(f) {
		return nil, api.ErrForm
	}
	ops := operationsOf(f)
	for _, a := range elements {
		if a < 0 || a >= ops.order() {
			return nil, api.ErrArg
		}
	}
	return ops, api.OK
}

// operationsOf returns the operations of a valid field.
func operationsOf(f api.Field) operations {
	if f.M == 1 {
		return integers(f.P)
	}
	return polynomials(f.M)
}

// power returns the product of k factors a, for a k of at least 0.
func power(ops operations, a, k int) int {
	product := 1
	for k > 0 {
		if k%2 == 1 {
			product = ops.mul(product, a)
		}
		a = ops.mul(a, a)
		k /= 2
	}
	return product
}
