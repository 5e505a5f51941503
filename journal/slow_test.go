package journal_test

import (
	"bytes"
	"hash/crc32"
	"testing"

	"mooring/api"
	"mooring/disk"
	"mooring/journal"
)

// form is a sector as the chapter has it, each of its things chosen freely.
type form struct {
	mark   byte
	gen    int
	number int
	place  int
	count  int // with 128 added, or not
	data   []byte
}

// part is the form of a part that has these bytes.
func part(gen, number, place int, last bool, data []byte) form {
	count := len(data)
	if last {
		count += 128
	}
	return form{'J', gen, number, place, count, data}
}

// sector is a form's bytes, with their sum.
func (f form) sector() []byte {
	out := []byte{f.mark,
		byte(f.gen % 256), byte(f.gen / 256),
		byte(f.number % 256), byte(f.number / 256 % 256), byte(f.number / 65536 % 256), byte(f.number / 65536 / 256),
		byte(f.place), byte(f.count)}
	out = append(out, f.data...)
	for len(out) < 60 {
		out = append(out, 0)
	}
	return summed(out)
}

// summed is a sector's first 60 bytes with the sum that they ask for.
func summed(b []byte) []byte {
	s := crc32.Checksum(b[:60], crc32.MakeTable(crc32.Castagnoli))
	return append(bytes.Clone(b[:60]), byte(s), byte(s>>8), byte(s>>16), byte(s>>24))
}

// needs is how many parts a record has.
func needs(b []byte) int {
	return max(1, (len(b)+50)/51)
}

// laid is the sectors of a record.
func laid(gen, number int, b []byte) []byte {
	var out []byte
	for i := range needs(b) {
		piece := b[51*i : min(51*i+51, len(b))]
		out = append(out, part(gen, number, i, i+1 == needs(b), piece).sector()...)
	}
	return out
}

// slowGen is a sector's generation; -1: it is a part of no record. It looks
// whether any record can have laid the sector so.
func slowGen(s []byte) int {
	gen, place := int(s[1])+256*int(s[2]), int(s[7])
	number := int(s[3]) + 256*int(s[4]) + 65536*int(s[5]) + 65536*256*int(s[6])
	for n := range 52 {
		for _, last := range []bool{false, true} {
			canBe := place < 254 && n == 51 || last && place < 255 && (n > 0 || place == 0)
			if canBe && bytes.Equal(part(gen, number, place, last, s[9:9+n]).sector(), s) {
				return gen
			}
		}
	}
	return -1
}

// slowGreatest is the greatest generation of a disk's bytes.
func slowGreatest(dump []byte) int {
	out := 0
	for at := 0; at < len(dump); at += 64 {
		out = max(out, slowGen(dump[at:at+64]))
	}
	return out
}

// slowRecord is the record that a disk's bytes begin with; false: none. It is the
// one that would have been laid just so.
func slowRecord(dump []byte, number int) ([]byte, bool) {
	var full []byte // the pieces ahead of the last one
	gen := int(dump[1]) + 256*int(dump[2])
	for at := 0; at < len(dump) && at < 255*64; at += 64 {
		for n := range 52 {
			b := append(bytes.Clone(full), dump[at+9:at+9+n]...)
			if l := laid(gen, number, b); len(l) == at+64 && bytes.Equal(l, dump[:at+64]) {
				return b, true
			}
		}
		full = append(full, dump[at+9:at+60]...)
	}
	return nil, false
}

// slowRecords is the records of a disk's bytes.
func slowRecords(dump []byte) [][]byte {
	var out [][]byte
	ahead := 0
	for len(dump) > 0 {
		b, ok := slowRecord(dump, len(out)+1)
		gen := int(dump[1]) + 256*int(dump[2])
		if !ok || gen < ahead {
			break
		}
		out, ahead = append(out, b), gen
		dump = dump[64*needs(b):]
	}
	return out
}

// slowRoom is how many bytes a record can have of which so many sectors are left.
func slowRoom(left int) int {
	out := -1
	for parts := 1; parts <= left && parts <= 255; parts++ {
		out = 51 * parts
	}
	return out
}

// read is all that one reads of a disk.
func read(t testing.TB, d *disk.Disk) []byte {
	t.Helper()
	var out []byte
	for at := range d.Size() {
		b, errno := d.Read(at)
		if errno != api.OK {
			t.Fatalf("Read(%d): error %d", at, errno)
		}
		out = append(out, b...)
	}
	return out
}

// newDisk is a disk that there can be.
func newDisk(t testing.TB, sectors int) *disk.Disk {
	t.Helper()
	d, errno := disk.New(sectors)
	if errno != api.OK {
		t.Fatalf("New(%d): error %d", sectors, errno)
	}
	return d
}

// diskOf is a disk with these bytes, all safe.
func diskOf(t testing.TB, dump []byte) *disk.Disk {
	t.Helper()
	d := newDisk(t, len(dump)/64)
	for at := range d.Size() {
		if errno := d.Write(at, dump[64*at:64*at+64]); errno != api.OK {
			t.Fatalf("Write(%d): error %d", at, errno)
		}
	}
	d.Flush()
	return d
}

// open opens what can be opened.
func open(t testing.TB, d *disk.Disk) *journal.Journal {
	t.Helper()
	j, errno := journal.Open(d)
	if errno != api.OK || j == nil {
		t.Fatalf("Open: %v, error %d", j, errno)
	}
	return j
}

// put puts a record for which there is room.
func put(t testing.TB, j *journal.Journal, b []byte) {
	t.Helper()
	if errno := j.Put(b); errno != api.OK {
		t.Fatalf("Put of %d bytes, with room for %d: error %d", len(b), j.Room(), errno)
	}
}

// tells holds all that a journal tells against what it must.
func tells(t testing.TB, j *journal.Journal, want [][]byte, gen, room int) {
	t.Helper()
	if j.Len() != len(want) || j.Gen() != gen || j.Room() != room {
		t.Fatalf("%d records, generation %d, room %d, and not %d, %d, %d", j.Len(), j.Gen(), j.Room(), len(want), gen, room)
	}
	for i, b := range want {
		if got, ok := j.Get(i); !ok || !bytes.Equal(got, b) {
			t.Fatalf("Get(%d): %X and %v, and not %X", i, got, ok, b)
		}
	}
	for _, i := range []int{-1 << 63, -len(want), -1, len(want), len(want) + 1, 1<<63 - 1} {
		if got, ok := j.Get(i); (i < 0 || i >= len(want)) && (ok || len(got) != 0) {
			t.Fatalf("Get(%d) of %d: %X and %v", i, len(want), got, ok)
		}
	}
}

// parses looks whether these bytes' records are those.
func parses(t testing.TB, dump []byte, want [][]byte) {
	t.Helper()
	got, errno := journal.Parse(dump)
	if errno != api.OK || !same(got, want) {
		t.Fatalf("Parse of %X: %X and error %d, and not %X", dump, got, errno, want)
	}
}

// looks holds what Parse and Open tell of a disk's bytes against the chapter's
// words.
func looks(t testing.TB, dump []byte) {
	t.Helper()
	want, gen := slowRecords(dump), slowGreatest(dump)+1
	parses(t, dump, want)
	d := diskOf(t, dump)
	if gen > 65535 {
		refuses(t, d, api.ErrFull)
		return
	}
	left := d.Size()
	for _, b := range want {
		left -= needs(b)
	}
	tells(t, open(t, d), want, gen, slowRoom(left))
}

// refuses looks whether a disk is not opened, and stays as it was.
func refuses(t testing.TB, d *disk.Disk, want api.Errno) {
	t.Helper()
	was := d.Dump()
	if j, errno := journal.Open(d); j != nil || errno != want {
		t.Fatalf("Open: %v, error %d, and not %d", j, errno, want)
	}
	if !bytes.Equal(d.Dump(), was) {
		t.Fatal("Open refused a disk, and turned it")
	}
}

func same(a, b [][]byte) bool {
	if len(a) != len(b) {
		return false
	}
	for i := range a {
		if !bytes.Equal(a[i], b[i]) {
			return false
		}
	}
	return true
}

// some is so many bytes, other ones for each seed, and none of them 0.
func some(length, seed int) []byte {
	out := make([]byte, length)
	for i := range out {
		out[i] = byte(1 + (7*i+31*seed+i/51)%255)
	}
	return out
}

// joined is lists one behind the other.
func joined(lists ...[]byte) []byte {
	return bytes.Join(lists, nil)
}

// blank is so many sectors of 0.
func blank(sectors int) []byte {
	return make([]byte, 64*sectors)
}

// numbers is a stream of numbers that look like chance, and are always the same.
type numbers uint64

func (n *numbers) below(limit int) int {
	*n = *n*6364136223846793005 + 1442695040888963407
	return int(uint64(*n)>>33) % limit
}

// record is bytes of a stream: of lengths around those of a part, and of two, or
// of any length up to four.
func (n *numbers) record() []byte {
	lengths := []int{0, 1, 9, 50, 51, 52, 60, 101, 102, 103, n.below(205)}
	out := make([]byte, lengths[n.below(len(lengths))])
	if n.below(4) == 0 {
		return out
	}
	for i := range out {
		out[i] = byte(n.below(256))
	}
	return out
}

// cut is a cut of a stream, at most so long.
func (n *numbers) cut(most int) api.Cut {
	out := make(api.Cut, n.below(most+1))
	for i := range out {
		out[i] = n.below(4) > 0
	}
	return out
}
