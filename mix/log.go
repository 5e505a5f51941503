package mix

import "math/bits"

const (
	// maxLog is the greatest number that has a logarithm here.
	maxLog = 1 << 16
	// logDigits is how many binary digits a logarithm has behind its whole part.
	logDigits = 24
	// unitBit is the place of the bit that counts 1 in y, which is 1 or more, and
	// below 2: its square has twice as many digits behind it, so it is shifted back.
	unitBit = 31
)

// Log is a whole number's logarithm; false: it has none here.
func Log(u int) (int, bool) {
	if u < 1 || u > maxLog {
		return 0, false
	}
	log := bits.Len(uint(u)) - 1
	y := uint64(u) << (unitBit - log)
	for range logDigits {
		// To square a number is to double its logarithm: what goes over into the
		// whole part is the next digit. The square is below 4: one bit tells it.
		y = y * y >> unitBit
		digit := y >> (unitBit + 1)
		y >>= digit
		log = log<<1 | int(digit)
	}
	return log, true
}
