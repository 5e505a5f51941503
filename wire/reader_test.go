package wire_test

import (
	"bytes"
	"math"
	"math/big"
	"testing"

	"mooring/api"
	"mooring/wire"
)

// slowLeading is the number that bytes begin with, and how many of them it has,
// by the words of the chapter: the digits up to the first one without 128 are
// added up, and that they are just what the number is written as.
func slowLeading(b []byte) (uint64, int, bool) {
	sum, unit := new(big.Int), big.NewInt(1)
	for i, v := range b {
		sum.Add(sum, new(big.Int).Mul(unit, big.NewInt(int64(v%128))))
		unit.Mul(unit, big.NewInt(128))
		if v >= 128 {
			continue
		}
		if !sum.IsUint64() || !bytes.Equal(slowDigits(sum), b[:i+1]) {
			return 0, 0, false
		}
		return sum.Uint64(), i + 1, true
	}
	return 0, 0, false
}

// stands tells whether a reader has nothing wrong, and so many bytes left.
func stands(r *wire.Reader, left int) bool {
	done := api.OK
	if left > 0 {
		done = api.ErrText
	}
	return r.Err() == api.OK && r.Left() == left && r.Done() == done
}

// behindWrong tells whether a reader is as one must be behind what was wrong,
// with so many bytes left: and stays so, whatever it is asked.
func behindWrong(t *testing.T, what string, r *wire.Reader, wrong api.Errno, left int) {
	t.Helper()
	for round := range 3 {
		if r.Err() != wrong || r.Done() != wrong || r.Left() != left {
			t.Fatalf("%s, round %d: Err %d, Done %d, Left %d; want %d, %d, %d", what, round, r.Err(), r.Done(), r.Left(), wrong, wrong, left)
		}
		if r.Uvarint() != 0 || r.Varint() != 0 || r.Fixed4() != 0 || r.Fixed8() != 0 || r.Byte() != 0 {
			t.Fatalf("%s: a number behind what was wrong", what)
		}
		for _, most := range []int{math.MinInt, -1, 0, 1, math.MaxInt} {
			if r.Number(most) != 0 || len(r.Bytes(most)) != 0 {
				t.Fatalf("%s: a number or bytes behind what was wrong", what)
			}
		}
	}
}

// Wi2: the chapter's examples.
func TestExamplesOfReading(t *testing.T) {
	r := wire.Read([]byte{0xAC, 0x02})
	if n := r.Uvarint(); n != 300 || !stands(r, 0) {
		t.Errorf("AC 02: %d, Err %d", n, r.Err())
	}
	r = wire.Read([]byte{0x01})
	if n := r.Varint(); n != -1 || !stands(r, 0) {
		t.Errorf("01 with sign: %d, Err %d", n, r.Err())
	}
	r = wire.Read([]byte{0x80, 0x00})
	if n := r.Uvarint(); n != 0 {
		t.Errorf("80 00: %d", n)
	}
	behindWrong(t, "80 00", r, api.ErrText, 2)
	r = wire.Read([]byte{0xAC, 0x02})
	if n := r.Number(299); n != 0 {
		t.Errorf("Number(299) of AC 02: %d", n)
	}
	behindWrong(t, "Number(299) of AC 02", r, api.ErrLong, 2)
}

// Wi2: a reader is at the beginning first, and what it tells turns nothing.
func TestReadBeginsAtTheBeginning(t *testing.T) {
	for _, b := range heads() {
		r := wire.Read(b)
		for range 3 {
			if !stands(r, len(b)) {
				t.Errorf("a reader of %d bytes: Err %d, Left %d, Done %d", len(b), r.Err(), r.Left(), r.Done())
			}
		}
	}
}

// Wi2: numbers without sign, with bytes behind them or without.
func TestReadUvarint(t *testing.T) {
	for _, n := range without() {
		for _, tail := range heads() {
			r := wire.Read(append(slowUvarint(n), tail...))
			if got := r.Uvarint(); got != n || !stands(r, len(tail)) {
				t.Fatalf("Uvarint of %X: %d, want %d (Err %d, Left %d)", slowUvarint(n), got, n, r.Err(), r.Left())
			}
		}
	}
}

// Wi2: numbers with sign.
func TestReadVarint(t *testing.T) {
	for _, n := range with() {
		for _, tail := range heads() {
			r := wire.Read(append(slowVarint(n), tail...))
			if got := r.Varint(); got != n || !stands(r, len(tail)) {
				t.Fatalf("Varint of %X: %d, want %d (Err %d, Left %d)", slowVarint(n), got, n, r.Err(), r.Left())
			}
		}
	}
}

// Wi2: four bytes, eight bytes, and one.
func TestReadFixed(t *testing.T) {
	for _, n := range without() {
		for _, tail := range heads() {
			r := wire.Read(append(slowFixed(n, 4), tail...))
			if got := r.Fixed4(); got != uint32(n) || !stands(r, len(tail)) {
				t.Fatalf("Fixed4: %d, want %d (Err %d, Left %d)", got, uint32(n), r.Err(), r.Left())
			}
			r = wire.Read(append(slowFixed(n, 8), tail...))
			if got := r.Fixed8(); got != n || !stands(r, len(tail)) {
				t.Fatalf("Fixed8: %d, want %d (Err %d, Left %d)", got, n, r.Err(), r.Left())
			}
			r = wire.Read(append([]byte{byte(n)}, tail...))
			if got := r.Byte(); got != byte(n) || !stands(r, len(tail)) {
				t.Fatalf("Byte: %d, want %d (Err %d, Left %d)", got, byte(n), r.Err(), r.Left())
			}
		}
	}
}

// mosts are limits to hold a number against: the edges, and those about it.
func mosts(n uint64) []int {
	out := []int{math.MinInt, -300, -1, 0, 1, 127, 128, 1 << 20, math.MaxInt - 1, math.MaxInt}
	if n <= math.MaxInt {
		out = append(out, int(n), int(n)-1)
	}
	if n < math.MaxInt {
		out = append(out, int(n)+1)
	}
	return out
}

// above tells whether a number is above a limit: any is above one below 0.
func above(n uint64, most int) bool {
	return new(big.Int).SetUint64(n).Cmp(big.NewInt(int64(most))) > 0
}

// Wi2: Number: of just what may be, of one less, of 0 and of limits below 0.
func TestReadNumber(t *testing.T) {
	for _, n := range without() {
		b := append(slowUvarint(n), "tail"...)
		for _, most := range mosts(n) {
			r := wire.Read(b)
			got := r.Number(most)
			if above(n, most) {
				if got != 0 || r.Err() != api.ErrLong || r.Left() != len(b) {
					t.Fatalf("Number(%d) of %d: %d, Err %d, Left %d", most, n, got, r.Err(), r.Left())
				}
				continue
			}
			if got != int(n) || !stands(r, 4) {
				t.Fatalf("Number(%d) of %d: %d, Err %d, Left %d", most, n, got, r.Err(), r.Left())
			}
		}
	}
}

// Wi2: Bytes: of just what may be, of one less, of 0 and of limits below 0.
func TestReadBytes(t *testing.T) {
	for _, s := range strings() {
		b := append(slowBytes(s), "tail"...)
		for _, most := range mosts(uint64(len(s))) {
			r := wire.Read(b)
			got := r.Bytes(most)
			if above(uint64(len(s)), most) {
				if len(got) != 0 {
					t.Fatalf("Bytes(%d) of %d bytes: %X", most, len(s), got)
				}
				behindWrong(t, "too long", r, api.ErrLong, len(b))
				continue
			}
			if !bytes.Equal(got, s) || !stands(r, 4) {
				t.Fatalf("Bytes(%d) of %d bytes: %X, Err %d, Left %d", most, len(s), got, r.Err(), r.Left())
			}
		}
	}
}

// Wi2: limits 0 and below, written out.
func TestNothingAtMost(t *testing.T) {
	r := wire.Read([]byte{0, 0, 9})
	if r.Number(0) != 0 || len(r.Bytes(0)) != 0 || !stands(r, 1) {
		t.Errorf("0 at most 0: Err %d, Left %d", r.Err(), r.Left())
	}
	r = wire.Read([]byte{0, 9})
	r.Number(-1)
	behindWrong(t, "Number(-1) of 0", r, api.ErrLong, 2)
	r = wire.Read([]byte{0, 9})
	r.Bytes(-1)
	behindWrong(t, "Bytes(-1) of none", r, api.ErrLong, 2)
	r = wire.Read([]byte{1, 9})
	r.Bytes(0)
	behindWrong(t, "Bytes(0) of one", r, api.ErrLong, 2)
}

// asked is a reader's method, whatever it tells: the answer is written to see
// that it is nothing.
type asked struct {
	what string
	zero func(r *wire.Reader) bool
}

// numberCalls are those that begin with a number without sign.
func numberCalls() []asked {
	return []asked{
		{"Uvarint", func(r *wire.Reader) bool { return r.Uvarint() == 0 }},
		{"Varint", func(r *wire.Reader) bool { return r.Varint() == 0 }},
		{"Number", func(r *wire.Reader) bool { return r.Number(math.MaxInt) == 0 }},
		{"Number of 0 at most", func(r *wire.Reader) bool { return r.Number(0) == 0 }},
		{"Number of limits below 0", func(r *wire.Reader) bool { return r.Number(-1) == 0 }},
		{"Bytes", func(r *wire.Reader) bool { return len(r.Bytes(math.MaxInt)) == 0 }},
		{"Bytes of 0 at most", func(r *wire.Reader) bool { return len(r.Bytes(0)) == 0 }},
		{"Bytes of limits below 0", func(r *wire.Reader) bool { return len(r.Bytes(-1)) == 0 }},
	}
}

// fixedCalls are those of so many bytes, whatever these are.
func fixedCalls() map[int]asked {
	return map[int]asked{
		1: {"Byte", func(r *wire.Reader) bool { return r.Byte() == 0 }},
		4: {"Fixed4", func(r *wire.Reader) bool { return r.Fixed4() == 0 }},
		8: {"Fixed8", func(r *wire.Reader) bool { return r.Fixed8() == 0 }},
	}
}

// noNumbers are bytes that begin with no number: none; cut off at each byte; a
// last digit 0; eleven bytes; ten bytes above the greatest number.
func noNumbers() [][]byte {
	out := [][]byte{nil, {}}
	for _, n := range []uint64{128, 300, 1 << 20, 1 << 35, 1 << 63, math.MaxUint64} {
		whole := slowUvarint(n)
		for cut := range whole {
			out = append(out, whole[:cut])
		}
	}
	for digits := 1; digits <= 11; digits++ {
		out = append(out, append(bytes.Repeat([]byte{0x80}, digits), 0), append(bytes.Repeat([]byte{0xFF}, digits), 0))
	}
	for _, lead := range []byte{0x80, 0x81, 0xFF} {
		out = append(out, append(bytes.Repeat([]byte{lead}, 10), 1), append(bytes.Repeat([]byte{lead}, 12), 1))
		for last := 2; last < 256; last++ {
			out = append(out, append(bytes.Repeat([]byte{lead}, 9), byte(last)))
		}
	}
	return out
}

// Wi2: what is no number is told as none by all that begin with one; a limit
// turns nothing of that.
func TestNoNumber(t *testing.T) {
	for _, b := range noNumbers() {
		for _, call := range numberCalls() {
			r := wire.Read(b)
			if !call.zero(r) {
				t.Fatalf("%s of %X: not 0", call.what, b)
			}
			behindWrong(t, call.what, r, api.ErrText, len(b))
		}
	}
}

// Wi2: the same behind something that could be read: the place stays there.
func TestNoNumberFurtherOn(t *testing.T) {
	for _, b := range noNumbers() {
		for _, call := range numberCalls() {
			r := wire.Read(append([]byte{0xAC, 0x02}, b...))
			if r.Uvarint() != 300 || !call.zero(r) {
				t.Fatalf("%s of %X further on: not 0", call.what, b)
			}
			behindWrong(t, call.what, r, api.ErrText, len(b))
		}
	}
}

// Wi2: too few bytes for one, four and eight.
func TestTooFewForFixed(t *testing.T) {
	for size, call := range fixedCalls() {
		for few := range size {
			r := wire.Read(filled(few, few))
			if !call.zero(r) {
				t.Fatalf("%s of %d bytes: not 0", call.what, few)
			}
			behindWrong(t, call.what, r, api.ErrText, few)
		}
	}
}

// Wi2: too few bytes for those that are told: the place stays ahead of how many.
// A length above the limit is told first.
func TestTooFewForBytes(t *testing.T) {
	for _, s := range strings() {
		whole := slowBytes(s)
		digits := len(whole) - len(s)
		for _, cut := range []int{digits, digits + len(s)/2, len(whole) - 1} {
			if cut < digits || cut == len(whole) {
				continue
			}
			b := whole[:cut]
			for most, wrong := range map[int]api.Errno{
				math.MaxInt: api.ErrText, len(s): api.ErrText,
				len(s) - 1: api.ErrLong, 0: api.ErrLong, -1: api.ErrLong,
			} {
				r := wire.Read(b)
				if out := r.Bytes(most); len(out) != 0 {
					t.Fatalf("Bytes(%d), %d of %d: %X", most, cut, len(whole), out)
				}
				behindWrong(t, "too few bytes", r, wrong, len(b))
			}
		}
	}
}

// Wi2: a length that no bytes could have is no matter of memory.
func TestGreatLengths(t *testing.T) {
	for _, n := range []uint64{1 << 31, 1 << 40, math.MaxInt64 - 1, math.MaxInt64} {
		b := append(slowUvarint(n), "some"...)
		r := wire.Read(b)
		r.Bytes(math.MaxInt)
		behindWrong(t, "a great length", r, api.ErrText, len(b))
	}
	for _, n := range []uint64{1 << 63, 1<<63 + 4, math.MaxUint64} {
		b := append(slowUvarint(n), "some"...)
		r := wire.Read(b)
		r.Bytes(math.MaxInt)
		behindWrong(t, "a length above every limit", r, api.ErrLong, len(b))
	}
}

// Wi2: what was wrong first stays, though more is wrong further on.
func TestFirstWrongStays(t *testing.T) {
	r := wire.Read([]byte{0xAC, 0x02, 0x80, 0x00})
	r.Number(299)
	r.Uvarint()
	r.Fixed8()
	behindWrong(t, "ErrLong first", r, api.ErrLong, 4)
	r = wire.Read([]byte{0xAC, 0x02})
	r.Fixed4()
	r.Number(299)
	behindWrong(t, "ErrText first", r, api.ErrText, 2)
}

// Wi2: bytes that are left are wrong to Done, and to Done alone: one may go on.
func TestDoneWithBytesLeft(t *testing.T) {
	r := wire.Read([]byte{1, 2, 3})
	for i := 1; i <= 3; i++ {
		if r.Done() != api.ErrText || r.Err() != api.OK {
			t.Errorf("%d left: Done %d, Err %d", r.Left(), r.Done(), r.Err())
		}
		if n := r.Byte(); n != byte(i) {
			t.Errorf("byte %d: %d", i, n)
		}
	}
	if r.Done() != api.OK || r.Left() != 0 {
		t.Errorf("none left: Done %d, Left %d", r.Done(), r.Left())
	}
	r.Byte()
	behindWrong(t, "behind the end", r, api.ErrText, 0)
}

// Wi2: all of one and of two bytes, and many longer ones: what is told as a
// number is just what has a number's one form.
func TestEveryBeginning(t *testing.T) {
	try := func(b []byte) {
		want, size, ok := slowLeading(b)
		r := wire.Read(b)
		got := r.Uvarint()
		if ok && (got != want || !stands(r, len(b)-size)) {
			t.Fatalf("Uvarint of %X: %d, Err %d, Left %d; want %d, Left %d", b, got, r.Err(), r.Left(), want, len(b)-size)
		}
		if !ok && (got != 0 || r.Err() != api.ErrText || r.Left() != len(b)) {
			t.Fatalf("Uvarint of %X: %d, Err %d, Left %d; want ErrText", b, got, r.Err(), r.Left())
		}
	}
	for i := range 256 {
		try([]byte{byte(i)})
		for j := range 256 {
			try([]byte{byte(i), byte(j)})
		}
	}
	n := numbers(9)
	for range 20000 {
		b := make([]byte, n.next()>>8%13)
		for i := range b {
			// Most have 128 added, lest hardly any be long.
			b[i] = byte(n.next() >> 7)
			if n.next()>>5%8 != 0 {
				b[i] |= 0x80
			}
		}
		if len(b) > 0 && n.next()>>5%2 == 0 {
			b[len(b)-1] = byte(n.next() >> 9 % 3)
		}
		try(b)
	}
}

// The reader's own none: nil tells zero values, and ErrText of Err and Done; a
// zero one has no bytes.
func TestReadersThatNoCallMade(t *testing.T) {
	var none *wire.Reader
	behindWrong(t, "nil", none, api.ErrText, 0)
	if none.Bytes(5) != nil {
		t.Error("nil tells bytes")
	}
	if r := new(wire.Reader); !stands(r, 0) {
		t.Errorf("the zero one: Err %d, Left %d, Done %d", r.Err(), r.Left(), r.Done())
	}
	for _, call := range append(numberCalls(), fixedCalls()[1], fixedCalls()[4], fixedCalls()[8]) {
		r := new(wire.Reader)
		if !call.zero(r) {
			t.Errorf("%s of the zero one: not 0", call.what)
		}
		behindWrong(t, "the zero one", r, api.ErrText, 0)
	}
}
