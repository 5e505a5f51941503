package wire_test

import (
	"bytes"
	"math"
	"testing"

	"mooring/api"
	"mooring/wire"
)

// thing is one of those that are written: kind is which.
type thing struct {
	kind int
	n    uint64
	s    []byte
}

// The kinds of things.
const (
	uvarint = iota
	varint
	fixed4
	fixed8
	single
	number
	some
	kinds
)

// write is b, and behind it a thing. A byte alone has no function of its own.
func (x thing) write(b []byte) []byte {
	switch x.kind {
	case uvarint, number:
		return wire.Uvarint(b, x.n)
	case varint:
		return wire.Varint(b, int64(x.n))
	case fixed4:
		return wire.Fixed4(b, uint32(x.n))
	case fixed8:
		return wire.Fixed8(b, x.n)
	case single:
		return append(bytes.Clone(b), byte(x.n))
	}
	return wire.Bytes(b, x.s)
}

// slow is a thing's bytes by the words of the chapter.
func (x thing) slow() []byte {
	switch x.kind {
	case uvarint, number:
		return slowUvarint(x.n)
	case varint:
		return slowVarint(int64(x.n))
	case fixed4:
		return slowFixed(x.n, 4)
	case fixed8:
		return slowFixed(x.n, 8)
	case single:
		return []byte{byte(x.n)}
	}
	return slowBytes(x.s)
}

// read is the next thing of a kind, as a reader tells it.
func read(r *wire.Reader, kind int) thing {
	x := thing{kind: kind}
	switch kind {
	case uvarint:
		x.n = r.Uvarint()
	case varint:
		x.n = uint64(r.Varint())
	case fixed4:
		x.n = uint64(r.Fixed4())
	case fixed8:
		x.n = r.Fixed8()
	case single:
		x.n = uint64(r.Byte())
	case number:
		x.n = uint64(r.Number(math.MaxInt))
	case some:
		x.s = r.Bytes(math.MaxInt)
	}
	return x
}

// same tells whether two things are alike.
func (x thing) same(y thing) bool {
	return x.kind == y.kind && x.n == y.n && bytes.Equal(x.s, y.s)
}

// chosen is a thing of a kind out of a stream, such as its kind can be.
func chosen(n *numbers, kind int) thing {
	x := thing{kind: kind, n: n.long()}
	switch kind {
	case fixed4:
		x.n = uint64(uint32(x.n))
	case single:
		x.n = uint64(byte(x.n))
	case number:
		x.n >>= 1
	case some:
		x = thing{kind: kind, s: filled(int(n.next()>>4), int(n.next()>>5%200))}
	}
	return x
}

// Wi3: things of all kinds, one behind the other, in many orders, are read back,
// and Done is OK; Left tells how many bytes are left, ahead of each of them.
func TestWrittenIsReadBack(t *testing.T) {
	n := numbers(31)
	for range 3000 {
		things := make([]thing, n.next()>>6%12)
		var b, want []byte
		for i := range things {
			things[i] = chosen(&n, int(n.next()>>7%kinds))
			b = things[i].write(b)
			want = append(want, things[i].slow()...)
		}
		if !bytes.Equal(b, want) {
			t.Fatalf("%v: written %X, want %X", things, b, want)
		}
		r, left := wire.Read(b), len(b)
		for i, x := range things {
			if !stands(r, left) {
				t.Fatalf("%v: ahead of %d: Err %d, Left %d, Done %d", things, i, r.Err(), r.Left(), r.Done())
			}
			if got := read(r, x.kind); !got.same(x) {
				t.Fatalf("%v: %d is read as %v", things, i, got)
			}
			left -= len(x.slow())
		}
		if r.Done() != api.OK || r.Left() != 0 {
			t.Fatalf("%v: Done %d, Left %d in the end", things, r.Done(), r.Left())
		}
	}
}

// Wi3: each kind behind each other one, with the edges of both.
func TestPairsAreReadBack(t *testing.T) {
	edges := map[int][]thing{}
	for kind := range kinds {
		if kind == some {
			for _, s := range [][]byte{nil, {0}, filled(1, 127), filled(2, 128)} {
				edges[kind] = append(edges[kind], thing{kind: kind, s: s})
			}
			continue
		}
		tops := map[int]uint64{uvarint: math.MaxUint64, varint: math.MaxUint64, fixed4: math.MaxUint32, fixed8: math.MaxUint64, single: 255, number: math.MaxInt}
		for _, v := range []uint64{0, 1, 127, 128, 1 << 31, math.MaxInt64, 1 << 63, math.MaxUint64} {
			edges[kind] = append(edges[kind], thing{kind: kind, n: min(v, tops[kind])})
		}
	}
	for _, firsts := range edges {
		for _, seconds := range edges {
			for _, first := range firsts {
				for _, second := range seconds {
					r := wire.Read(second.write(first.write(nil)))
					if !read(r, first.kind).same(first) || !read(r, second.kind).same(second) || r.Done() != api.OK {
						t.Fatalf("%v and %v are not read back: Err %d, Left %d", first, second, r.Err(), r.Left())
					}
				}
			}
		}
	}
}

// Wi3: whatever the bytes are: what is read, written again, is just the bytes
// that were read.
func TestReadIsWrittenAgain(t *testing.T) {
	n := numbers(77)
	for range 20000 {
		b := make([]byte, n.next()>>6%40)
		for i := range b {
			// Small ones among them, lest few lengths fit.
			b[i] = byte(n.next()>>7) >> (n.next() >> 8 % 8)
		}
		readAndWriteAgain(t, b, &n)
	}
}

// readAndWriteAgain reads kinds out of a stream till something is wrong, or
// nothing is left.
func readAndWriteAgain(t *testing.T, b []byte, n *numbers) {
	t.Helper()
	r := wire.Read(b)
	var again []byte
	for r.Left() > 0 {
		x := read(r, int(n.next()>>7%kinds))
		if r.Err() != api.OK {
			break
		}
		again = x.write(again)
		if !bytes.Equal(again, b[:len(b)-r.Left()]) {
			t.Fatalf("%X: %d bytes are read, and written again as %X", b, len(b)-r.Left(), again)
		}
	}
}

// Wi3: the same of bytes that go test -fuzz chooses.
func FuzzReadIsWrittenAgain(f *testing.F) {
	f.Add([]byte{0xAC, 0x02, 0x01, 0x07, 0, 0, 0, 0x02, 'a', 'b'}, uint64(1))
	f.Add([]byte{0x80, 0x00}, uint64(2))
	f.Fuzz(func(t *testing.T, b []byte, from uint64) {
		n := numbers(from)
		readAndWriteAgain(t, b, &n)
	})
}

func BenchmarkRead(b *testing.B) {
	in := wire.Bytes(wire.Fixed8(wire.Varint(wire.Uvarint(nil, math.MaxUint64), -300), 7), filled(1, 64))
	for b.Loop() {
		r := wire.Read(in)
		r.Uvarint()
		r.Varint()
		r.Fixed8()
		r.Bytes(64)
	}
}
