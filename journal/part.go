package journal

import (
	"mooring/api"
	"mooring/sum"
)

// Where the things of a part stand in its sector. The sum is behind the piece.
const (
	markAt   = 0
	genAt    = 1
	numberAt = 3
	placeAt  = 7
	countAt  = 8
	pieceAt  = 9
	sumAt    = api.Sector - 4
)

// mark begins each part.
const mark = 'J'

// lastFlag is added to how many bytes the last part of a record has.
const lastFlag = 128

// pieceSize is how many bytes a part has room for, and maxRecord how many a
// record may have.
const (
	pieceSize = sumAt - pieceAt
	maxRecord = api.MaxParts * pieceSize
)

// part is a sector's worth of a record.
type part struct {
	gen    int
	number uint32 // the record's
	place  int    // among the record's parts
	last   bool
	data   []byte
}

// partsOf is a record's parts, which share its bytes.
func partsOf(b []byte, gen int, number uint32) []part {
	var out []part
	for {
		n := min(len(b), pieceSize)
		last := n == len(b)
		out = append(out, part{gen, number, len(out), last, b[:n]})
		if last {
			return out
		}
		b = b[n:]
	}
}

// sector is the bytes of a part.
func (p part) sector() []byte {
	b := make([]byte, sumAt)
	b[markAt] = mark
	for i := range 2 {
		b[genAt+i] = byte(p.gen >> (8 * i))
	}
	for i := range 4 {
		b[numberAt+i] = byte(p.number >> (8 * i))
	}
	b[placeAt] = byte(p.place)
	b[countAt] = byte(len(p.data))
	if p.last {
		b[countAt] |= lastFlag
	}
	copy(b[pieceAt:], p.data)
	return sum.Append(b)
}

// partOf is the part that a sector is; false: it is one of no record.
func partOf(sector []byte) (part, bool) {
	b, ok := sum.Strip(sector)
	if !ok || b[markAt] != mark {
		return part{}, false
	}
	p := part{place: int(b[placeAt]), last: b[countAt] >= lastFlag}
	for i := range 2 {
		p.gen |= int(b[genAt+i]) << (8 * i)
	}
	for i := range 4 {
		p.number |= uint32(b[numberAt+i]) << (8 * i)
	}
	n := int(b[countAt] % lastFlag)
	if !canBe(p.place, n, p.last) || !allZero(b[pieceAt+n:]) {
		return part{}, false
	}
	p.data = b[pieceAt : pieceAt+n]
	return p, true
}

// canBe says whether a record can have a part at this place with so many bytes:
// those ahead of the last one are full, and the last one is empty in a record
// without bytes alone.
func canBe(place, n int, last bool) bool {
	if !last {
		return n == pieceSize && place+1 < api.MaxParts
	}
	return n <= pieceSize && place < api.MaxParts && (n > 0 || place == 0)
}

func allZero(b []byte) bool {
	for _, v := range b {
		if v != 0 {
			return false
		}
	}
	return true
}
