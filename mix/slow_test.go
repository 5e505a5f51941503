package mix_test

import (
	"math"
	"math/big"
)

// modulus is how many numbers of 32 bits there are.
const modulus = uint64(1) << 32

// step is one step of the chapter's word 'mixed'.
type step func(x uint64) uint64

// xorShifted is x xor x shifted right.
func xorShifted(by int) step { return func(x uint64) uint64 { return x ^ x>>by } }

// times is x times something, modulo 2^32: both are below it, so 64 bits are enough.
func times(factor uint64) step { return func(x uint64) uint64 { return x * factor % modulus } }

// mixSteps is the chapter's word 'mixed', step by step. It uses nothing of the package.
func mixSteps() []step {
	return []step{xorShifted(16), times(0x7FEB352D), xorShifted(15), times(0x846CA68B), xorShifted(16)}
}

// through is a number behind steps; of what is above 32 bits the lowest are taken.
func through(steps []step, x uint32) uint32 {
	y := uint64(x)
	for _, s := range steps {
		y = s(y)
	}
	return uint32(y % modulus)
}

// slowMix is Mix by the chapter's words.
func slowMix(x uint32) uint32 { return through(mixSteps(), x) }

// added is a sum modulo 2^32.
func added(a uint32, b uint64) uint32 { return uint32((uint64(a) + b) % modulus) }

// slowHash2 is Hash2 by the chapter's words.
func slowHash2(a, b uint32) uint32 { return slowMix(slowMix(added(a, 0x9E3779B1)) ^ b) }

// slowHash3 is Hash3 by the chapter's words.
func slowHash3(a, b, c uint32) uint32 { return slowMix(slowHash2(a, b) ^ added(c, 0x85EBCA77)) }

// slowLog is the logarithm by the chapter's words, with whole numbers of any size. u
// is 1 to 2^16.
func slowLog(u int) int {
	n := 0
	for u>>(n+1) > 0 {
		n++
	}
	y := new(big.Int).Lsh(big.NewInt(int64(u)), uint(31-n))
	limit := new(big.Int).Lsh(big.NewInt(1), 32)
	out := n * 16777216
	for worth := 8388608; worth >= 1; worth /= 2 {
		y.Mul(y, y)
		y.Rsh(y, 31)
		if y.Cmp(limit) >= 0 {
			out += worth
			y.Rsh(y, 1)
		}
	}
	return out
}

// numbers is a stream of numbers, the same in every run.
type numbers uint64

func (n *numbers) next() uint32 {
	*n = *n*6364136223846793005 + 1442695040888963407
	return uint32(*n >> 32)
}

// edges are numbers about 0, about the greatest one, about every power of 2, and about
// those at which the chapter's sums pass 2^32.
func edges() []uint32 {
	var out []uint32
	for bit := range 32 {
		out = append(out, 1<<bit-1, 1<<bit, 1<<bit+1)
	}
	for _, wrap := range []uint32{0, 0x61C8864F, 0x7A143589} {
		out = append(out, wrap-2, wrap-1, wrap, wrap+1)
	}
	return append(out, math.MaxUint32, math.MaxUint32-1, math.MaxUint32/2, 0x7FEB352D, 0x846CA68B, 0x9E3779B1, 0x85EBCA77)
}

// sizes are numbers of every size, from 1 bit to 32, some of each.
func sizes(from, each int) []uint32 {
	n := numbers(from)
	var out []uint32
	for bit := range 32 {
		for range each {
			out = append(out, (n.next()|1<<31)>>(31-bit))
		}
	}
	return out
}
