package store

import (
	"mooring/api"
	"mooring/wire"
)

// What a batch and its acts may have.
const (
	maxActs  = 256
	maxKey   = 64
	maxValue = 4096
)

// maxRecord is how many bytes layer 8 takes: so many parts, of 51 bytes each.
const maxRecord = api.MaxParts * 51

// What stands behind a key: the value follows setMark alone.
const (
	takeMark = 0
	setMark  = 1
)

// Encode is a batch's bytes.
func Encode(l []api.Act) ([]byte, api.Errno) {
	if !isBatch(l) {
		return nil, api.ErrArg
	}
	out := wire.Uvarint(nil, uint64(len(l)))
	for _, a := range l {
		out = append(out, actBytes(a)...)
	}
	if len(out) > maxRecord {
		return nil, api.ErrLong
	}
	return out, api.OK
}

// Decode is the batch of bytes.
func Decode(b []byte) ([]api.Act, api.Errno) {
	if len(b) > maxRecord {
		return nil, api.ErrText
	}
	r := wire.Read(b)
	out := make([]api.Act, r.Number(maxActs))
	for i := range out {
		out[i] = readAct(r)
	}
	// What the reader was told to take at most keeps all but a key without bytes
	// within what a batch may have.
	if r.Done() != api.OK || !isBatch(out) {
		return nil, api.ErrText
	}
	return out, api.OK
}

// isBatch says whether acts may be done at once.
func isBatch(l []api.Act) bool {
	if len(l) > maxActs {
		return false
	}
	for _, a := range l {
		if !isAct(a) {
			return false
		}
	}
	return true
}

// isAct says whether an act may be in a batch.
func isAct(a api.Act) bool {
	most := 0
	if a.Set {
		most = maxValue
	}
	return len(a.Key) >= 1 && len(a.Key) <= maxKey && len(a.Data) <= most
}

// actBytes is an act's bytes.
func actBytes(a api.Act) []byte {
	key := wire.Bytes(nil, []byte(a.Key))
	if !a.Set {
		return wire.Uvarint(key, takeMark)
	}
	return wire.Bytes(wire.Uvarint(key, setMark), a.Data)
}

// readAct is the next act; the reader says whether there was one.
func readAct(r *wire.Reader) api.Act {
	var a api.Act
	a.Key = string(r.Bytes(maxKey))
	a.Set = r.Number(setMark) == setMark
	if a.Set {
		a.Data = r.Bytes(maxValue)
	}
	return a
}
