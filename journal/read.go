package journal

import "mooring/api"

// record is one that is read.
type record struct {
	gen   int
	parts int
	data  []byte
}

// readRecords is the records of sectors, and how many of these they stand in.
func readRecords(sectors []byte) ([][]byte, int) {
	var out [][]byte
	used, least := 0, 0
	for {
		r, ok := readRecord(sectors[used*api.Sector:], uint32(len(out)+1))
		// One of a generation below is left over from ahead of a crash: it was
		// lost then, since what stood ahead of it was.
		if !ok || r.gen < least {
			return out, used
		}
		out = append(out, r.data)
		used += r.parts
		least = r.gen
	}
}

// readRecord is the record of this number whose parts the first sectors are;
// false: there is none.
func readRecord(sectors []byte, number uint32) (record, bool) {
	var r record
	for ; len(sectors) > 0; sectors = sectors[api.Sector:] {
		p, ok := partOf(sectors[:api.Sector])
		if !ok || p.number != number || p.place != r.parts {
			break
		}
		if r.parts == 0 {
			r.gen = p.gen
		}
		if p.gen != r.gen {
			break
		}
		r.parts++
		r.data = append(r.data, p.data...)
		if p.last {
			return r, true
		}
	}
	return record{}, false
}

// greatestGen is that of all parts of any records; 0: there is none. Those that
// are left over count, too, so that none is taken for one that is put later.
func greatestGen(sectors []byte) int {
	greatest := 0
	for ; len(sectors) > 0; sectors = sectors[api.Sector:] {
		if p, ok := partOf(sectors[:api.Sector]); ok {
			greatest = max(greatest, p.gen)
		}
	}
	return greatest
}
