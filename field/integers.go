package field

import "commodatum/api"

// integers is the field of the integers modulo a prime, which is its value.
type integers int

func (p integers) order() int { return int(p) }

func (p integers) add(a, b int) int {
	// A subtraction takes less time than a division, and later layers add very often.
	sum := a + b
	if sum >= int(p) {
		sum -= int(p)
	}
	return sum
}

func (p integers) sub(a, b int) int {
	difference := a - b
	if difference < 0 {
		difference += int(p)
	}
	return difference
}

func (p integers) mul(a, b int) int {
	// The product may be too great for an int of 32 bits, but not for these.
	return int(uint32(a) * uint32(b) % uint32(p))
}

// smallPrimes are the primes below 256, the root of MaxField.
var smallPrimes = []uint32{
	2, 3, 5, 7, 11, 13, 17, 19, 23, 29, 31, 37, 41, 43, 47, 53, 59, 61, 67, 71, 73, 79, 83, 89, 97, 101, 103,
	107, 109, 113, 127, 131, 137, 139, 149, 151, 157, 163, 167, 173, 179, 181, 191, 193, 197, 199, 211, 223,
	227, 229, 233, 239, 241, 251,
}

// isPrime reports whether n is a prime number of at most MaxField.
func isPrime(n int) bool {
	if n < 2 || n > api.MaxField {
		return false
	}
	for _, p := range smallPrimes {
		if p*p > uint32(n) {
			return true
		}
		if uint32(n)%p == 0 {
			return false
		}
	}
	return true
}
