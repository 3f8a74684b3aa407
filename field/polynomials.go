package field

// polynomials is the field of the polynomials over the field of two elements whose degree is below its value.
// Bit i of an element is the coefficient of x^i.
type polynomials int

// moduli contains for each degree from 2 on the irreducible polynomial that is least as a number. It ends where
// the field has MaxField elements.
var moduli = [...]int{
	0, 0, 7, 11, 19, 37, 67, 131, 283, 515, 1033, 2053, 4105, 8219, 16417, 32771, 65579,
}

func (m polynomials) order() int { return 1 << m }

func (m polynomials) modulus() int { return moduli[m] }

func (m polynomials) add(a, b int) int { return a ^ b }

// A sum of two equal coefficients is 0, so that each polynomial is its own negative.
func (m polynomials) sub(a, b int) int { return a ^ b }

func (m polynomials) mul(a, b int) int {
	product := 0
	for ; b > 0; b >>= 1 {
		if b&1 == 1 {
			product ^= a
		}
		// a is multiplied by x.
		a <<= 1
		if a >= m.order() {
			a ^= m.modulus()
		}
	}
	return product
}
