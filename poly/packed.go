package poly

import "commodatum/api"

// packed is a term with four exponents in each word, the first one in the highest bits. MaxPower fits in the 16 bits
// that each of them has, so that the words of a product of two terms are the sums of their words.
type packed struct {
	c     int
	words []uint64
}

const (
	wordExponents = 4  // exponents in a word
	exponentBytes = 2  // bytes of an exponent
	exponentBits  = 16 // bits of an exponent
)

// pack returns the terms of p as packed.
func pack(p api.Poly) []packed {
	list := make([]packed, len(p))
	for i, t := range p {
		list[i] = packed{t.C, wordsOf(t.E)}
	}
	return list
}

// wordsOf packs exponents.
func wordsOf(exponents []int) []uint64 {
	words := make([]uint64, (len(exponents)+wordExponents-1)/wordExponents)
	for v, e := range exponents {
		words[v/wordExponents] |= uint64(e) << shiftOf(v)
	}
	return words
}

// exponent returns the exponent of the variable v.
func (t packed) exponent(v int) int {
	return int(t.words[v/wordExponents] >> shiftOf(v) & api.MaxPower)
}

// shiftOf returns where in its word the exponent of the variable v begins.
func shiftOf(v int) int {
	return (wordExponents - 1 - v%wordExponents) * exponentBits
}

// appendWord appends the bytes of a word, the highest one first, so that the bytes are ordered as the exponents are.
func appendWord(key []byte, word uint64) []byte {
	return append(key, byte(word>>56), byte(word>>48), byte(word>>40), byte(word>>32), byte(word>>24), byte(word>>16), byte(word>>8), byte(word))
}

// appendKey appends the bytes of the exponents, as they are in their words.
func appendKey(key []byte, exponents []int) []byte {
	for _, e := range exponents {
		key = append(key, byte(e>>8), byte(e))
	}
	return key
}

// exponentsOf returns the exponents whose bytes these are.
func exponentsOf(key string) []int {
	exponents := make([]int, len(key)/exponentBytes)
	for v := range exponents {
		exponents[v] = int(key[2*v])<<8 | int(key[2*v+1])
	}
	return exponents
}
