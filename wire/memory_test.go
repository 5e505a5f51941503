package wire_test

import (
	"bytes"
	"math"
	"testing"

	"mooring/api"
	"mooring/wire"
)

// roomy is bytes with room behind their end, and ahead of their beginning.
type roomy struct{ all, was []byte }

func newRoomy(b []byte) *roomy {
	all := append([]byte{1, 2, 3}, b...)
	all = append(all, bytes.Repeat([]byte{0xA5}, 40)...)
	return &roomy{all, bytes.Clone(all)}
}

// bytes are those that are handed in, with room behind them.
func (r *roomy) bytes() []byte { return r.all[3 : len(r.all)-40] }

func (r *roomy) changed() bool { return !bytes.Equal(r.all, r.was) }

// scribble writes over bytes and over all the room behind their end.
func scribble(b []byte) {
	b = b[:cap(b)]
	for i := range b {
		b[i] ^= 0xFF
	}
}

// writings are the functions, each with a short and with a long thing.
func writings(s []byte) map[string]func([]byte) []byte {
	return map[string]func([]byte) []byte{
		"Uvarint":      func(b []byte) []byte { return wire.Uvarint(b, 0) },
		"long Uvarint": func(b []byte) []byte { return wire.Uvarint(b, math.MaxUint64) },
		"Varint":       func(b []byte) []byte { return wire.Varint(b, -1) },
		"long Varint":  func(b []byte) []byte { return wire.Varint(b, math.MinInt64) },
		"Fixed4":       func(b []byte) []byte { return wire.Fixed4(b, 0x01020304) },
		"Fixed8":       func(b []byte) []byte { return wire.Fixed8(b, 0x0102030405060708) },
		"Bytes":        func(b []byte) []byte { return wire.Bytes(b, s) },
		"no Bytes":     func(b []byte) []byte { return wire.Bytes(b, nil) },
	}
}

// Wi1, R3: what is written goes behind b in room of its own: b's bytes and the
// room behind them stay, the answer shares none of it, and two answers share
// nothing.
func TestWritingIsInRoomOfItsOwn(t *testing.T) {
	s := newRoomy([]byte("some bytes"))
	for what, write := range writings(s.bytes()) {
		for _, head := range heads() {
			b := newRoomy(head)
			first, second := write(b.bytes()), write(b.bytes())
			if b.changed() || s.changed() {
				t.Fatalf("%s behind %X: what was handed in was changed", what, head)
			}
			want := bytes.Clone(first)
			scribble(first)
			if b.changed() || s.changed() {
				t.Fatalf("%s behind %X: the answer shares memory with an argument", what, head)
			}
			if !bytes.Equal(second, want) {
				t.Fatalf("%s behind %X: two answers share memory", what, head)
			}
			scribble(b.all)
			if !bytes.Equal(second, want) {
				t.Fatalf("%s behind %X: the argument is kept in the answer", what, head)
			}
		}
	}
}

// Wi1, R3: what comes behind one answer in two ways does not meet.
func TestAnswersBranch(t *testing.T) {
	for what, write := range writings([]byte("s")) {
		stem := write([]byte("stem"))
		left, right := wire.Fixed8(stem, 1), wire.Bytes(stem, []byte("right"))
		if !written(left, stem, slowFixed(1, 8)) || !written(right, stem, slowBytes([]byte("right"))) {
			t.Errorf("%s: two that go on write over one another", what)
		}
	}
}

// Wi1, R3: bytes may be written behind themselves, and out of the room behind
// b's end.
func TestBytesBehindThemselves(t *testing.T) {
	b := newRoomy([]byte("abcdef"))
	if out := wire.Bytes(b.bytes(), b.bytes()[2:5]); !written(out, []byte("abcdef"), slowBytes([]byte("cde"))) {
		t.Errorf("a piece of b behind b: %X", out)
	}
	room := b.all[9:20]
	if out := wire.Bytes(b.bytes(), room); !written(out, []byte("abcdef"), slowBytes(bytes.Repeat([]byte{0xA5}, 11))) {
		t.Errorf("the room behind b's end behind b: %X", out)
	}
	if b.changed() {
		t.Error("what was handed in was changed")
	}
}

// R3: a reader keeps nothing of what it was given: that may be turned.
func TestReaderKeepsNoArgument(t *testing.T) {
	in := newRoomy(wire.Bytes(wire.Uvarint(nil, 300), []byte("abc")))
	r := wire.Read(in.bytes())
	scribble(in.all)
	if n := r.Uvarint(); n != 300 {
		t.Errorf("a number behind the argument was turned: %d", n)
	}
	scribble(in.all)
	if s := r.Bytes(3); string(s) != "abc" || r.Done() != api.OK {
		t.Errorf("bytes behind the argument was turned: %q", s)
	}
	if in.changed() {
		t.Error("the argument was turned by reading")
	}
}

// Wi2, R3: the bytes that a reader tells are new memory, their spare room too.
func TestBytesReadAreNewMemory(t *testing.T) {
	var b []byte
	for _, s := range strings() {
		b = wire.Bytes(b, s)
	}
	in := newRoomy(b)
	r := wire.Read(in.bytes())
	other := wire.Read(in.bytes())
	var told [][]byte
	for i, s := range strings() {
		got := r.Bytes(math.MaxInt)
		if !bytes.Equal(got, s) {
			t.Fatalf("%d: %X is read as %X", i, s, got)
		}
		scribble(other.Bytes(math.MaxInt))
		told = append(told, got)
	}
	if in.changed() || other.Done() != api.OK {
		t.Fatal("what is told shares memory with what was given")
	}
	// Each is written over, with all its room: those behind it stay.
	for i, s := range strings() {
		if !bytes.Equal(told[i], s) {
			t.Fatalf("%d shares memory with one ahead of it", i)
		}
		scribble(told[i])
	}
}

// R3: bytes that were told stay as they are while the reader goes on, and what
// is written over them turns nothing that is read later.
func TestReaderGoesOn(t *testing.T) {
	r := wire.Read(wire.Uvarint(wire.Bytes(wire.Bytes(nil, []byte("abc")), []byte("def")), 300))
	first := r.Bytes(3)
	_ = append(first, "xxxxxxxxxx"...)
	scribble(first)
	if second := r.Bytes(3); string(second) != "def" || r.Uvarint() != 300 || r.Done() != api.OK {
		t.Errorf("what was told turned what is behind it: %q", second)
	}
}

// R4: two readers of the same bytes have nothing to do with one another.
func TestReadersAreApart(t *testing.T) {
	b := wire.Uvarint(wire.Uvarint(nil, 300), 301)
	one, other := wire.Read(b), wire.Read(b)
	if one.Uvarint() != 300 || other.Number(299) != 0 || one.Uvarint() != 301 {
		t.Error("what is wrong with one is told by the other")
	}
	if one.Done() != api.OK || other.Done() != api.ErrLong || other.Left() != len(b) {
		t.Errorf("Done %d and %d", one.Done(), other.Done())
	}
}
