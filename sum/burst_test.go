package sum_test

import (
	"bytes"
	"testing"

	"mooring/sum"
)

// turn turns one bit of bytes: bits go from the lowest of the first byte on.
func turn(b []byte, bit int) { b[bit/8] ^= 1 << (bit % 8) }

// turnBurst turns the bits of a pattern, its lowest at a place.
func turnBurst(b []byte, at int, pattern uint32) {
	for ; pattern != 0; pattern >>= 1 {
		if pattern&1 == 1 {
			turn(b, at)
		}
		at++
	}
}

// bursts are patterns of a length, the first and the last bit turned: all of
// them, of a short length; else the sparse, the full and some others.
func bursts(length int) []uint32 {
	first, last := uint32(1), uint32(1)<<(length-1)
	if length <= 10 {
		var out []uint32
		for inner := uint32(0); inner <= last; inner += 2 {
			out = append(out, (inner&(last-1))|first|last)
		}
		return out
	}
	// The polynomial itself, its bits either way, is what a sum is likeliest to
	// miss.
	mask := last<<1 - 1
	out := []uint32{first | last, mask}
	for _, pattern := range []uint32{0x1EDC6F41, 0x82F63B78, 0x05EC76F1, 0x8F6E37A0, 0xAAAAAAAA, 0x55555555} {
		out = append(out, pattern&mask|first|last)
	}
	n := numbers(length)
	for range 40 {
		out = append(out, n.next()&mask|first|last)
	}
	return out
}

// Su3: a burst of each length turns the sum, wherever it begins.
func TestBurstsTurnTheSum(t *testing.T) {
	for _, b := range [][]byte{make([]byte, 9), []byte("mooring"), filled(20, 21)} {
		was := sum.Of(b)
		for length := 1; length <= 32; length++ {
			for at := 0; at+length <= len(b)*8; at++ {
				for _, pattern := range bursts(length) {
					turnBurst(b, at, pattern)
					if sum.Of(b) == was {
						t.Fatalf("%d bytes: the burst %X at bit %d leaves the sum", len(b), pattern, at)
					}
					turnBurst(b, at, pattern)
				}
			}
		}
	}
}

// Su3: bursts in bytes that are shorter than the longest burst: no two of one
// length have the same sum.
func TestShortBytesHaveUnlikeSums(t *testing.T) {
	seen := map[uint32]int{}
	for i := range 1 << 16 {
		b := []byte{byte(i), byte(i >> 8)}
		if other, ok := seen[sum.Of(b)]; ok {
			t.Fatalf("%d and %d have the same sum", i, other)
		}
		seen[sum.Of(b)] = i
	}
}

// Su3: bursts at the first and at the last bits of many bytes.
func TestBurstsInManyBytes(t *testing.T) {
	b := filled(21, 4096)
	was := sum.Of(b)
	for length := 1; length <= 32; length++ {
		for _, at := range []int{0, 1, 7, 8, 4095 * 4, len(b)*8 - length - 1, len(b)*8 - length} {
			for _, pattern := range []uint32{1, 1 | 1<<(length-1), 1<<length - 1} {
				turnBurst(b, at, pattern)
				if sum.Of(b) == was {
					t.Fatalf("the burst %X at bit %d leaves the sum", pattern, at)
				}
				turnBurst(b, at, pattern)
			}
		}
	}
}

// Su2, Su3: a burst over the bytes, over their sum, or over where they meet, is
// told by Strip, since the sum's bits go on behind the bytes' in their order.
func TestStripTellsBursts(t *testing.T) {
	for _, b := range [][]byte{nil, {0}, []byte("abc"), filled(22, 12)} {
		with := sum.Append(b)
		was := bytes.Clone(with)
		for length := 1; length <= 32; length++ {
			for at := 0; at+length <= len(with)*8; at++ {
				for _, pattern := range bursts(length) {
					turnBurst(with, at, pattern)
					if !refused(with) {
						t.Fatalf("%d bytes: Strip does not tell the burst %X at bit %d", len(b), pattern, at)
					}
					turnBurst(with, at, pattern)
				}
			}
		}
		if !bytes.Equal(with, was) {
			t.Fatal("the bytes are not what they were")
		}
	}
}
