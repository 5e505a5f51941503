package atlas

import (
	"mooring/api"
	"mooring/wire"
)

// Encode is a map's bytes.
func Encode(m api.Map) ([]byte, api.Errno) {
	if errno := Check(m); errno != api.OK {
		return nil, errno
	}
	l := []int{m.Epoch, m.Pool.K, m.Pool.M, m.Pool.Pgs, m.Pool.Domain, len(m.Osds)}
	for _, o := range m.Osds {
		l = append(l, parts(o)...)
	}
	return write(l...), api.OK
}

// Decode is the map of bytes.
func Decode(b []byte) (api.Map, api.Errno) {
	r := wire.Read(b)
	l := read(r, api.MaxEpoch, api.MaxShards, api.MaxShards, api.MaxPgs, api.Domains-1, api.MaxOsds)
	m := api.Map{Epoch: l[0], Pool: api.Pool{K: l[1], M: l[2], Pgs: l[3], Domain: l[4]}}
	for range l[5] {
		m.Osds = append(m.Osds, readOsd(r))
	}
	if r.Done() != api.OK || Check(m) != api.OK {
		return api.Map{}, api.ErrText
	}
	return m, api.OK
}

// EncodeChange is a change's bytes.
func EncodeChange(c api.Change) ([]byte, api.Errno) {
	if errno := CheckChange(c); errno != api.OK {
		return nil, errno
	}
	return append(write(c.Kind), write(parts(c.Osd)...)...), api.OK
}

// DecodeChange is the change of bytes.
func DecodeChange(b []byte) (api.Change, api.Errno) {
	r := wire.Read(b)
	l := read(r, api.ChangeKinds-1)
	c := api.Change{Kind: l[0], Osd: readOsd(r)}
	if r.Done() != api.OK || CheckChange(c) != api.OK {
		return api.Change{}, api.ErrText
	}
	return c, api.OK
}

// parts is an OSD's numbers, in the order of its bytes.
func parts(o api.Osd) []int {
	return []int{o.Id, truth(o.Up), truth(o.In), o.Weight, o.Life, o.Boot, o.Host, o.Rack}
}

// readOsd is the next OSD, by its parts; whoever asks looks whether it may be.
func readOsd(r *wire.Reader) api.Osd {
	l := read(r, lastId, 1, 1, api.MaxWeight, lastTime, lastTime, lastId, lastId)
	return api.Osd{Id: l[0], Up: l[1] == 1, In: l[2] == 1, Weight: l[3], Life: l[4], Boot: l[5], Host: l[6], Rack: l[7]}
}

// write is numbers, one behind the other.
func write(l ...int) []byte {
	var b []byte
	for _, n := range l {
		// Each is written apart, since what goes behind bytes by layer 5 copies all of them.
		b = append(b, wire.Uvarint(nil, uint64(n))...)
	}
	return b
}

// read is the next numbers, each at most as great as is said; of those that can't be
// read 0.
func read(r *wire.Reader, most ...int) []int {
	l := make([]int, len(most))
	for i, n := range most {
		l[i] = r.Number(n)
	}
	return l
}

// truth is 1 of what is true.
func truth(is bool) int {
	if is {
		return 1
	}
	return 0
}
