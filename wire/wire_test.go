package wire_test

import (
	"bytes"
	"math"
	"math/big"
	"testing"

	"mooring/wire"
)

// slowDigits is a number without sign by the words of the chapter: its digits to
// the base 128, the lowest first, with 128 added to all but the last one. It
// uses nothing of the package, and reckons without any limit.
func slowDigits(n *big.Int) []byte {
	rest, base, digit := new(big.Int).Set(n), big.NewInt(128), new(big.Int)
	var out []byte
	for {
		rest.DivMod(rest, base, digit)
		if rest.Sign() == 0 {
			return append(out, byte(digit.Int64()))
		}
		out = append(out, byte(digit.Int64())+128)
	}
}

// slowUvarint is a number without sign by the words of the chapter.
func slowUvarint(n uint64) []byte { return slowDigits(new(big.Int).SetUint64(n)) }

// slowVarint is a number with sign by the words of the chapter: 2 n, or -2 n - 1
// of one below 0.
func slowVarint(n int64) []byte {
	twice := new(big.Int).Mul(big.NewInt(2), big.NewInt(n))
	if n < 0 {
		twice.Neg(twice).Sub(twice, big.NewInt(1))
	}
	return slowDigits(twice)
}

// slowFixed is a number in so many bytes, the lowest first.
func slowFixed(n uint64, size int) []byte {
	out := make([]byte, size)
	for i := range out {
		out[i] = byte(n % 256)
		n /= 256
	}
	return out
}

// slowBytes is bytes, ahead of them how many.
func slowBytes(s []byte) []byte {
	return append(slowUvarint(uint64(len(s))), s...)
}

// numbers is a stream of numbers, the same in every run.
type numbers uint64

func (n *numbers) next() uint32 {
	*n = *n*6364136223846793005 + 1442695040888963407
	return uint32(*n >> 32)
}

// long is a number of any size: its bits are cut off at some place.
func (n *numbers) long() uint64 {
	whole := uint64(n.next())<<32 | uint64(n.next())
	return whole >> (n.next() >> 9 % 64)
}

// filled is bytes out of a stream.
func filled(from, length int) []byte {
	n := numbers(from)
	out := make([]byte, length)
	for i := range out {
		out[i] = byte(n.next() >> 7)
	}
	return out
}

// without are numbers without sign: the edges at which one byte more is needed,
// those on both sides of them, and many others.
func without() []uint64 {
	out := []uint64{0, 1, 7, 127, 128, 255, 256, 300, 1 << 63, math.MaxInt64, math.MaxUint64, math.MaxUint64 - 1}
	for bit := range 64 {
		out = append(out, 1<<bit-1, 1<<bit, 1<<bit+1)
	}
	n := numbers(5)
	for range 2000 {
		out = append(out, n.long())
	}
	return out
}

// with are numbers with sign.
func with() []int64 {
	out := []int64{0, -1, 1, -2, 63, 64, -64, -65, math.MinInt64, math.MinInt64 + 1, math.MaxInt64}
	for _, n := range without() {
		out = append(out, int64(n), -int64(n))
	}
	return out
}

// strings are bytes of many lengths, of those above all at which how many there
// are needs a byte more.
func strings() [][]byte {
	out := [][]byte{nil, {}, {0}, {0xFF}, []byte("ab"), bytes.Repeat([]byte{0x80}, 12)}
	for _, length := range []int{1, 2, 9, 10, 11, 126, 127, 128, 129, 300, 4096, 16383, 16384} {
		out = append(out, filled(length, length))
	}
	return out
}

// heads are what stands ahead of what is written.
func heads() [][]byte {
	return [][]byte{nil, {}, {0}, {0x80}, []byte("head"), filled(3, 300)}
}

// written tells whether out is just b, and want behind it.
func written(out, b, want []byte) bool {
	return bytes.Equal(out, append(bytes.Clone(b), want...))
}

// Wi1: the chapter's examples.
func TestExamplesOfWriting(t *testing.T) {
	if b := wire.Uvarint(nil, 300); !bytes.Equal(b, []byte{0xAC, 0x02}) {
		t.Errorf("300: %X, want AC 02", b)
	}
	if b := wire.Varint(nil, -1); !bytes.Equal(b, []byte{0x01}) {
		t.Errorf("-1: %X, want 01", b)
	}
}

// Wi1: the edges that the document names, written out.
func TestEdgesOfWriting(t *testing.T) {
	full := bytes.Repeat([]byte{0xFF}, 9)
	for _, edge := range []struct {
		what      string
		out, want []byte
	}{
		{"0", wire.Uvarint(nil, 0), []byte{0}},
		{"127", wire.Uvarint(nil, 127), []byte{0x7F}},
		{"128", wire.Uvarint(nil, 128), []byte{0x80, 1}},
		{"2^63", wire.Uvarint(nil, 1<<63), append(bytes.Repeat([]byte{0x80}, 9), 1)},
		{"the greatest without sign", wire.Uvarint(nil, math.MaxUint64), append(bytes.Clone(full), 1)},
		{"0 with sign", wire.Varint(nil, 0), []byte{0}},
		{"1 with sign", wire.Varint(nil, 1), []byte{2}},
		{"-2", wire.Varint(nil, -2), []byte{3}},
		{"the least with sign", wire.Varint(nil, math.MinInt64), append(bytes.Clone(full), 1)},
		{"the greatest with sign", wire.Varint(nil, math.MaxInt64), append([]byte{0xFE}, append(bytes.Clone(full[1:]), 1)...)},
		{"four bytes", wire.Fixed4(nil, 0x04030201), []byte{1, 2, 3, 4}},
		{"eight bytes", wire.Fixed8(nil, 0x0807060504030201), []byte{1, 2, 3, 4, 5, 6, 7, 8}},
		{"no bytes", wire.Bytes(nil, nil), []byte{0}},
		{"bytes of length 0", wire.Bytes(nil, []byte{}), []byte{0}},
		{"two bytes", wire.Bytes(nil, []byte("ab")), []byte{2, 'a', 'b'}},
	} {
		if !bytes.Equal(edge.out, edge.want) {
			t.Errorf("%s: %X, want %X", edge.what, edge.out, edge.want)
		}
	}
}

// Wi1: numbers without sign, behind many beginnings.
func TestUvarint(t *testing.T) {
	for _, n := range without() {
		want := slowUvarint(n)
		if len(want) < 1 || len(want) > 10 {
			t.Fatalf("%d has %d bytes", n, len(want))
		}
		for _, b := range heads() {
			if out := wire.Uvarint(b, n); !written(out, b, want) {
				t.Fatalf("Uvarint of %d behind %X: %X, want %X there", n, b, out, want)
			}
		}
	}
}

// Wi1: numbers with sign.
func TestVarint(t *testing.T) {
	for _, n := range with() {
		want := slowVarint(n)
		for _, b := range heads() {
			if out := wire.Varint(b, n); !written(out, b, want) {
				t.Fatalf("Varint of %d behind %X: %X, want %X there", n, b, out, want)
			}
		}
	}
}

// Wi1: four and eight bytes.
func TestFixed(t *testing.T) {
	for _, n := range without() {
		for _, b := range heads() {
			if out, want := wire.Fixed4(b, uint32(n)), slowFixed(n, 4); !written(out, b, want) {
				t.Fatalf("Fixed4 of %d behind %X: %X, want %X there", uint32(n), b, out, want)
			}
			if out, want := wire.Fixed8(b, n), slowFixed(n, 8); !written(out, b, want) {
				t.Fatalf("Fixed8 of %d behind %X: %X, want %X there", n, b, out, want)
			}
		}
	}
}

// Wi1: bytes, ahead of them how many.
func TestBytes(t *testing.T) {
	for _, s := range strings() {
		for _, b := range heads() {
			if out := wire.Bytes(b, s); !written(out, b, slowBytes(s)) {
				t.Fatalf("Bytes, %d of them, behind %X: %X", len(s), b, out)
			}
		}
	}
}

// Wi1, R4: unlike numbers have unlike bytes, and one number has the same ones
// every time.
func TestOneFormEach(t *testing.T) {
	whose := map[string]uint64{}
	for _, n := range without() {
		b := string(wire.Uvarint(nil, n))
		if other, ok := whose[b]; ok && other != n {
			t.Fatalf("%d and %d are both written %X", n, other, b)
		}
		whose[b] = n
		if again := string(wire.Uvarint(nil, n)); again != b {
			t.Fatalf("%d is written %X, and then %X", n, b, again)
		}
	}
}

func BenchmarkUvarint(b *testing.B) {
	for b.Loop() {
		wire.Uvarint(nil, math.MaxUint64)
	}
}

func BenchmarkBytes(b *testing.B) {
	s := filled(1, 4096)
	b.SetBytes(int64(len(s)))
	for b.Loop() {
		wire.Bytes(nil, s)
	}
}
