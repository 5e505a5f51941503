package sum

// Sums are polynomials over two elements, modulo the sum's own. Bits go from the
// lowest on, so the highest bit is the number 1, and the one below it x.
const (
	polynomial = 0x82F63B78 // 1EDC6F41, its bits from the lowest on
	one        = 1 << 31    // x to the power 0
	oneByte    = one >> 8   // x to the power 8
)

// product is a product of two polynomials.
func product(a, b uint32) uint32 {
	var out uint32
	for ; b != 0; b <<= 1 {
		if b&one != 0 {
			out ^= a
		}
		a = timesX(a)
	}
	return out
}

// timesX is a polynomial times x.
func timesX(a uint32) uint32 {
	if a&1 != 0 {
		return a>>1 ^ polynomial
	}
	return a >> 1
}

// powerOfBytes is x to as many powers as n bytes have bits, of n from 0 on: by
// squares, so that a long piece takes no longer than a short one.
func powerOfBytes(n int) uint32 {
	var out, square uint32 = one, oneByte
	for ; n > 0; n >>= 1 {
		if n&1 != 0 {
			out = product(out, square)
		}
		square = product(square, square)
	}
	return out
}
