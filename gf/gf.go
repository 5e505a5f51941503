// Package gf is layer 1: the field of 256 elements: see shared/doc/01-gf.md.
package gf

// order is how many elements there are but 0: the powers of x come back to 1
// behind so many.
const order = 255

// Add is a sum.
func Add(a, b byte) byte { return a ^ b }

// Mul is a product.
func Mul(a, b byte) byte {
	if a == 0 || b == 0 {
		return 0
	}
	return Exp(logarithm(a) + logarithm(b))
}

// Inv is an inverse; false: 0 has none.
func Inv(a byte) (byte, bool) {
	if a == 0 {
		return 0, false
	}
	return Exp(-logarithm(a)), true
}

// Div is a quotient; false: nothing is divided by 0.
func Div(a, b byte) (byte, bool) {
	inverse, ok := Inv(b)
	if !ok {
		return 0, false
	}
	return Mul(a, inverse), true
}

// Pow is a power; false: 0 has none below 0.
func Pow(a byte, n int) (byte, bool) {
	if n == 0 {
		return 1, true
	}
	if a == 0 {
		return 0, n > 0
	}
	// n is brought below the order ahead of the product, which would wrap round
	// of a large n.
	return Exp(logarithm(a) * remainder(n)), true
}

// Exp is a power of 2.
func Exp(n int) byte { return power(remainder(n)) }

// Log is of which power of 2 it is; false: 0 is none.
func Log(a byte) (int, bool) {
	if a == 0 {
		return 0, false
	}
	return logarithm(a), true
}

// Dot is the sum of products.
func Dot(a, b []byte) (byte, bool) {
	if len(a) != len(b) {
		return 0, false
	}
	var sum byte
	for i := range a {
		sum = Add(sum, Mul(a[i], b[i]))
	}
	return sum, true
}

// AddMul is a list and a multiple of another one, added.
func AddMul(dst, src []byte, c byte) ([]byte, bool) {
	if len(dst) != len(src) {
		return nil, false
	}
	out := make([]byte, len(dst))
	for i := range out {
		out[i] = Add(dst[i], Mul(c, src[i]))
	}
	return out, true
}

// remainder is n modulo the order, from 0 to 254 of an n below 0, too.
func remainder(n int) int {
	r := n % order
	if r < 0 {
		r += order
	}
	return r
}
