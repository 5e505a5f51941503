package sum_test

import (
	"bytes"
	"hash/crc32"
	"math"
	"testing"

	"mooring/sum"
)

// slowOf is the sum by the words of the chapter, bit by bit: the register's
// highest bit is the highest power, so the message's bits come in there, and
// the sum's bits are the register's the other way round. It uses nothing of the
// package.
func slowOf(b []byte) uint32 {
	register := uint32(math.MaxUint32)
	for _, v := range b {
		for bit := range 8 {
			in := uint32(v>>bit) & 1
			out := register >> 31
			register <<= 1
			if in != out {
				register ^= 0x1EDC6F41
			}
		}
	}
	register = ^register
	var turned uint32
	for bit := range 32 {
		turned |= register >> bit & 1 << (31 - bit)
	}
	return turned
}

// numbers is a stream of numbers, the same in every run.
type numbers uint64

func (n *numbers) next() uint32 {
	*n = *n*6364136223846793005 + 1442695040888963407
	return uint32(*n >> 32)
}

// filled is bytes out of a stream.
func filled(from, length int) []byte {
	n := numbers(from)
	out := make([]byte, length)
	for i := range out {
		out[i] = byte(n.next() >> 7)
	}
	return out
}

// samples are bytes of many lengths and kinds.
func samples() [][]byte {
	out := [][]byte{nil, {}, {0}, {0xFF}, []byte("123456789"), []byte("abc")}
	for _, n := range []int{1, 2, 3, 4, 5, 7, 8, 9, 16, 31, 32, 33, 64, 255, 256, 257, 4096} {
		out = append(out, make([]byte, n), bytes.Repeat([]byte{0xFF}, n), filled(n, n))
	}
	return out
}

// low is a sum in four bytes, the lowest first.
func low(n uint32) []byte {
	return []byte{byte(n), byte(n >> 8), byte(n >> 16), byte(n >> 24)}
}

// The chapter's examples.
func TestExamples(t *testing.T) {
	if n := sum.Of([]byte("123456789")); n != 0xE3069283 {
		t.Errorf("Of 123456789 = %X, want E3069283", n)
	}
	for _, nothing := range [][]byte{nil, {}} {
		if n := sum.Of(nothing); n != 0 {
			t.Errorf("Of nothing = %X, want 0", n)
		}
	}
}

// Su1: sums that others have told, too (iSCSI's).
func TestOfKnownBytes(t *testing.T) {
	rising, falling := make([]byte, 32), make([]byte, 32)
	for i := range rising {
		rising[i], falling[31-i] = byte(i), byte(i)
	}
	for _, known := range []struct {
		b    []byte
		want uint32
	}{
		{make([]byte, 32), 0x8A9136AA},
		{bytes.Repeat([]byte{0xFF}, 32), 0x62A8AB43},
		{rising, 0x46DD794E},
		{falling, 0x113FDB5C},
	} {
		if n := sum.Of(known.b); n != known.want {
			t.Errorf("Of %v = %X, want %X", known.b, n, known.want)
		}
	}
}

// Su1: Of, bit by bit.
func TestOf(t *testing.T) {
	for _, b := range samples() {
		if n, want := sum.Of(b), slowOf(b); n != want {
			t.Errorf("Of %d bytes = %X, want %X", len(b), n, want)
		}
	}
}

// Su1: Of every byte, alone and behind another one.
func TestOfShortBytes(t *testing.T) {
	for i := range 256 {
		if b := []byte{byte(i)}; sum.Of(b) != slowOf(b) {
			t.Errorf("Of %v = %X, want %X", b, sum.Of(b), slowOf(b))
		}
		for j := range 256 {
			if b := []byte{byte(i), byte(j)}; sum.Of(b) != slowOf(b) {
				t.Fatalf("Of %v = %X, want %X", b, sum.Of(b), slowOf(b))
			}
		}
	}
}

// Su1: Of many bytes, against the library's sum.
func TestOfManyBytes(t *testing.T) {
	table := crc32.MakeTable(crc32.Castagnoli)
	for _, length := range []int{1<<16 - 1, 1 << 20, 1<<20 + 1, 3 << 20} {
		b := filled(length, length)
		if n, want := sum.Of(b), crc32.Checksum(b, table); n != want {
			t.Errorf("Of %d bytes = %X, want %X", length, n, want)
		}
	}
}

// Su1: More of nothing is the sum itself, whatever it is, and More of 0 is Of.
func TestMoreOfNothing(t *testing.T) {
	n := numbers(5)
	for _, s := range []uint32{0, 1, 1 << 31, math.MaxUint32, n.next(), n.next()} {
		for _, nothing := range [][]byte{nil, {}} {
			if got := sum.More(s, nothing); got != s {
				t.Errorf("More(%X, nothing) = %X", s, got)
			}
		}
	}
	for _, b := range samples() {
		if n, want := sum.More(0, b), slowOf(b); n != want {
			t.Errorf("More(0, %d bytes) = %X, want %X", len(b), n, want)
		}
	}
}

// Su1: More goes on from any sum: each is that of some four bytes.
func TestMoreOfAnySum(t *testing.T) {
	n := numbers(6)
	for range 2000 {
		first, b := low(n.next()), filled(int(n.next()), int(n.next()%40))
		whole := append(bytes.Clone(first), b...)
		if got, want := sum.More(slowOf(first), b), slowOf(whole); got != want {
			t.Fatalf("More behind %v, of %v = %X, want %X", first, b, got, want)
		}
	}
}

// Su1, Su3: a whole that is cut in two at every place.
func TestPiecesAtEveryPlace(t *testing.T) {
	for _, b := range samples() {
		if len(b) > 300 {
			continue
		}
		want := slowOf(b)
		for cut := range len(b) + 1 {
			ahead, behind := b[:cut], b[cut:]
			if n := sum.More(sum.Of(ahead), behind); n != want {
				t.Fatalf("%d bytes, cut at %d: More = %X, want %X", len(b), cut, n, want)
			}
			if n, ok := sum.Join(sum.Of(ahead), sum.Of(behind), len(behind)); n != want || !ok {
				t.Fatalf("%d bytes, cut at %d: Join = %X, %v, want %X, true", len(b), cut, n, ok, want)
			}
		}
	}
}

// Su3: a whole that is cut in three, joined from either side.
func TestThreePieces(t *testing.T) {
	b := filled(9, 48)
	want := slowOf(b)
	for i := range len(b) + 1 {
		for j := i; j <= len(b); j++ {
			x, y, z := sum.Of(b[:i]), sum.Of(b[i:j]), sum.Of(b[j:])
			xy, _ := sum.Join(x, y, j-i)
			left, ok := sum.Join(xy, z, len(b)-j)
			if left != want || !ok {
				t.Fatalf("cut at %d and %d, the first two first: %X, %v, want %X, true", i, j, left, ok, want)
			}
			yz, _ := sum.Join(y, z, len(b)-j)
			right, ok := sum.Join(x, yz, len(b)-i)
			if right != want || !ok {
				t.Fatalf("cut at %d and %d, the last two first: %X, %v, want %X, true", i, j, right, ok, want)
			}
		}
	}
}

// Su3: many pieces, of uneven lengths, empty ones among them.
func TestManyPieces(t *testing.T) {
	b := filled(10, 4096)
	n := numbers(11)
	var gone, joined uint32
	ok := true
	for at := 0; at < len(b) && ok; {
		end := min(len(b), at+int(n.next()%50))
		piece := b[at:end]
		gone = sum.More(gone, piece)
		joined, ok = sum.Join(joined, sum.Of(piece), len(piece))
		at = end
	}
	if want := slowOf(b); gone != want || joined != want || !ok {
		t.Errorf("More = %X, Join = %X, %v, want %X, true", gone, joined, ok, want)
	}
}

// Su1: Join of empty pieces on either side, and on both.
func TestJoinOfEmptyPieces(t *testing.T) {
	empty := sum.Of(nil)
	for _, b := range samples() {
		want := slowOf(b)
		if n, ok := sum.Join(want, empty, 0); n != want || !ok {
			t.Errorf("%d bytes and nothing = %X, %v, want %X, true", len(b), n, ok, want)
		}
		if n, ok := sum.Join(empty, want, len(b)); n != want || !ok {
			t.Errorf("nothing and %d bytes = %X, %v, want %X, true", len(b), n, ok, want)
		}
	}
	if n, ok := sum.Join(empty, empty, 0); n != 0 || !ok {
		t.Errorf("nothing and nothing = %X, %v, want 0, true", n, ok)
	}
}

// Su1: Join of the longest piece that there may be, and of those about a power
// of 2.
func TestJoinOfLongPieces(t *testing.T) {
	table := crc32.MakeTable(crc32.Castagnoli)
	ahead, all := []byte("mooring"), filled(12, 1<<20)
	for power := range 21 {
		for _, n := range []int{1<<power - 1, 1 << power, 1<<power + 1} {
			if n > 1<<20 {
				continue
			}
			behind := all[:n]
			want := crc32.Update(slowOf(ahead), table, behind)
			if got, ok := sum.Join(sum.Of(ahead), sum.Of(behind), n); got != want || !ok {
				t.Errorf("Join of %d = %X, %v, want %X, true", n, got, ok, want)
			}
		}
	}
}

// Su1: the piece ahead may be as long as it likes.
func TestJoinBehindManyBytes(t *testing.T) {
	b := filled(13, 3<<20)
	behind := b[2<<20:]
	want := crc32.Checksum(b, crc32.MakeTable(crc32.Castagnoli))
	if n, ok := sum.Join(sum.Of(b[:2<<20]), sum.Of(behind), len(behind)); n != want || !ok {
		t.Errorf("Join = %X, %v, want %X, true", n, ok, want)
	}
}

// Su1, R2: Join of an n that may not be tells false, and 0 beside it.
func TestJoinOfWrongLengths(t *testing.T) {
	wrong := []int{-1, -2, -5, -1 << 20, 1<<20 + 1, 1<<20 + 2, 1 << 21, 1 << 30, math.MinInt32, math.MaxInt32, math.MinInt, math.MinInt + 1, math.MaxInt - 1, math.MaxInt}
	for _, n := range wrong {
		for _, s := range [][2]uint32{{0, 0}, {1, 2}, {0xE3069283, 0xE3069283}, {math.MaxUint32, math.MaxUint32}} {
			if got, ok := sum.Join(s[0], s[1], n); got != 0 || ok {
				t.Errorf("Join(%X, %X, %d) = %X, %v, want 0, false", s[0], s[1], n, got, ok)
			}
		}
	}
}

// Su1, R1: n alone says whether Join tells false, also where no n bytes have
// the sum.
func TestJoinOfAnySums(t *testing.T) {
	for _, n := range []int{0, 1, 2, 3, 4, 1<<20 - 1, 1 << 20} {
		for _, s := range [][2]uint32{{0, 1}, {1, 0}, {7, 1 << 31}, {math.MaxUint32, math.MaxUint32}} {
			if _, ok := sum.Join(s[0], s[1], n); !ok {
				t.Errorf("Join(%X, %X, %d) tells false", s[0], s[1], n)
			}
		}
	}
}

// R4: the same is answered again, whatever was asked in between.
func TestAnswersHangOnArgumentsAlone(t *testing.T) {
	b := []byte("123456789")
	of, more := sum.Of(b), sum.More(77, b)
	join, _ := sum.Join(of, more, 9)
	sum.Of(filled(14, 100))
	sum.More(3, filled(15, 100))
	sum.Join(1, 2, 100)
	sum.Join(1, 2, -1)
	sum.Strip(sum.Append(b))
	sum.Strip(b)
	again, ok := sum.Join(of, more, 9)
	if sum.Of(b) != of || sum.More(77, b) != more || again != join || !ok {
		t.Error("a later answer is another one")
	}
}

var keep uint32

func BenchmarkOf4096(b *testing.B) {
	data := filled(1, 4096)
	b.SetBytes(4096)
	for range b.N {
		keep ^= sum.Of(data)
	}
}

func BenchmarkJoin(b *testing.B) {
	for range b.N {
		keep, _ = sum.Join(keep, 7, 1<<20-1)
	}
}
