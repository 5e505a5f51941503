package wire

import (
	"bytes"

	"mooring/api"
)

// Reader reads bytes, from their beginning on.
type Reader struct {
	rest  []byte    // what is behind the place
	wrong api.Errno // what was wrong first
}

// Read is a reader of bytes.
func Read(b []byte) *Reader { return &Reader{rest: bytes.Clone(b)} }

// Uvarint is the next number without sign.
func (r *Reader) Uvarint() uint64 {
	if r.Err() != api.OK {
		return 0
	}
	n, size := leading(r.rest)
	if size == 0 {
		r.wrong = api.ErrText
		return 0
	}
	r.rest = r.rest[size:]
	return n
}

// Varint is the next number with sign.
func (r *Reader) Varint() int64 { return unfolded(r.Uvarint()) }

// Fixed4 is the next four bytes.
func (r *Reader) Fixed4() uint32 { return uint32(r.fixed(4)) }

// Fixed8 is the next eight bytes.
func (r *Reader) Fixed8() uint64 { return r.fixed(8) }

// Byte is the next byte.
func (r *Reader) Byte() byte { return byte(r.fixed(1)) }

// Number is the next number without sign, that is at most another one.
func (r *Reader) Number(most int) int {
	if r.Err() != api.OK {
		return 0
	}
	begin := r.rest
	n := r.Uvarint()
	if r.wrong != api.OK {
		return 0
	}
	if most < 0 || n > uint64(most) {
		r.refuse(begin, api.ErrLong)
		return 0
	}
	return int(n)
}

// Bytes is the next bytes, at most so many.
func (r *Reader) Bytes(most int) []byte {
	if r.Err() != api.OK {
		return nil
	}
	begin := r.rest
	n := r.Number(most)
	if r.wrong != api.OK {
		return nil
	}
	if n > len(r.rest) {
		r.refuse(begin, api.ErrText)
		return nil
	}
	out := bytes.Clone(r.rest[:n])
	r.rest = r.rest[n:]
	return out
}

// Err is the first thing that was wrong.
func (r *Reader) Err() api.Errno {
	if r == nil {
		return api.ErrText
	}
	return r.wrong
}

// Left is how many bytes are left.
func (r *Reader) Left() int {
	if r == nil {
		return 0
	}
	return len(r.rest)
}

// Done is the first thing that was wrong; bytes that are left are.
func (r *Reader) Done() api.Errno {
	if wrong := r.Err(); wrong != api.OK {
		return wrong
	}
	if r.Left() > 0 {
		return api.ErrText
	}
	return api.OK
}

// fixed is the number in the next so many bytes, the lowest first.
func (r *Reader) fixed(size int) uint64 {
	if r.Err() != api.OK {
		return 0
	}
	if size > len(r.rest) {
		r.wrong = api.ErrText
		return 0
	}
	var n uint64
	for i, v := range r.rest[:size] {
		n |= uint64(v) << (8 * i)
	}
	r.rest = r.rest[size:]
	return n
}

// refuse takes the place back to where what can't be read begins: a part of it
// was read already.
func (r *Reader) refuse(begin []byte, wrong api.Errno) {
	r.rest = begin
	r.wrong = wrong
}

// leading is the number that bytes begin with, and how many of them it has; 0 of
// them: they begin with none, or with one in another form than its own.
func leading(b []byte) (uint64, int) {
	var n uint64
	for i, v := range b[:min(len(b), maxDigits)] {
		if v >= follows {
			n |= uint64(v-follows) << (digitBits * i)
			continue
		}
		if i > 0 && v == 0 || i == maxDigits-1 && v > greatestLast {
			return 0, 0
		}
		return n | uint64(v)<<(digitBits*i), i + 1
	}
	return 0, 0
}
