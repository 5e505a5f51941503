package disk_test

import (
	"bytes"
	"testing"

	"mooring/api"
	"mooring/disk"
)

// The things that can be done with a disk so that it is another one behind them.
const (
	doWrite = iota
	doFlush
	doCrash
	doRot
)

// deed is one of them.
type deed struct {
	kind int
	at   int // doWrite: a sector; doRot: a byte
	data []byte
	cut  api.Cut
	x    byte
}

// slowDisk is what was done with a disk, and nothing else: each byte is reckoned
// anew from the beginning, by the chapter's words.
type slowDisk struct {
	sectors int
	done    []deed
}

// fate is what came of a write: the number of the deed that made it safe, or -1
// if it was lost, or is not safe yet.
func (s *slowDisk) fate(write int) int {
	number := 0 // of the write, among those since the last flush or crash
	for i := write - 1; i >= 0 && s.done[i].kind != doFlush && s.done[i].kind != doCrash; i-- {
		if s.done[i].kind == doWrite {
			number++
		}
	}
	end := s.end(write)
	if end < 0 {
		return -1
	}
	if e := s.done[end]; e.kind == doCrash && (number >= len(e.cut) || !e.cut[number]) {
		return -1
	}
	return end
}

// end is the first flush or crash behind a deed; -1: there was none.
func (s *slowDisk) end(from int) int {
	for i := from; i < len(s.done); i++ {
		if s.done[i].kind == doFlush || s.done[i].kind == doCrash {
			return i
		}
	}
	return -1
}

// safe is all bytes that are safe: each as the last safe write of its sector
// left it (of those that one deed made safe, the last that was written), and
// turned by what rotted behind that deed.
func (s *slowDisk) safe() []byte {
	out := make([]byte, s.sectors*64)
	since := make([]int, s.sectors) // the deed from which on a sector is so
	for at := range since {
		since[at] = -1
	}
	for i, d := range s.done {
		if d.kind != doWrite || s.fate(i) < 0 {
			continue
		}
		// Writes come in their order, and so do the deeds that make them safe.
		since[d.at] = s.fate(i)
		for k, v := range d.data {
			out[d.at*64+k] = v
		}
	}
	for i, d := range s.done {
		if d.kind == doRot && i > since[d.at/64] {
			out[d.at] ^= d.x
		}
	}
	return out
}

// read is a sector as one reads it.
func (s *slowDisk) read(at int) []byte {
	for i := len(s.done) - 1; i >= 0; i-- {
		if d := s.done[i]; d.kind == doWrite && d.at == at && s.end(i) < 0 {
			return d.data
		}
	}
	return s.safe()[at*64 : at*64+64]
}

// pending is how many writes are not safe.
func (s *slowDisk) pending() int {
	n := 0
	for i, d := range s.done {
		if d.kind == doWrite && s.end(i) < 0 {
			n++
		}
	}
	return n
}

// do does a deed with a disk, and tells what the disk told.
func (e deed) do(d *disk.Disk) api.Errno {
	switch e.kind {
	case doWrite:
		return d.Write(e.at, e.data)
	case doFlush:
		d.Flush()
	case doCrash:
		d.Crash(e.cut)
	case doRot:
		return d.Rot(e.at, e.x)
	}
	return api.OK
}

// both is a disk, and what was done with it.
type both struct {
	t    *testing.T
	disk *disk.Disk
	slow slowDisk
}

func newBoth(t *testing.T, sectors int) *both {
	t.Helper()
	return &both{t, newDisk(t, sectors), slowDisk{sectors: sectors}}
}

// do does a deed that is not refused, and looks at the disk.
func (b *both) do(e deed) {
	b.t.Helper()
	if errno := e.do(b.disk); errno != api.OK {
		b.t.Fatalf("behind %v: %v: error %d", b.slow.done, e, errno)
	}
	b.slow.done = append(b.slow.done, e)
	b.look()
}

// look holds all that the disk tells against what it was given.
func (b *both) look() {
	b.t.Helper()
	if got, want := b.disk.Dump(), b.slow.safe(); !bytes.Equal(got, want) {
		b.t.Fatalf("behind %v: Dump %X, and not %X", b.slow.done, got, want)
	}
	if got, want := b.disk.Pending(), b.slow.pending(); got != want {
		b.t.Fatalf("behind %v: Pending %d, and not %d", b.slow.done, got, want)
	}
	if got := b.disk.Size(); got != b.slow.sectors {
		b.t.Fatalf("behind %v: Size %d, and not %d", b.slow.done, got, b.slow.sectors)
	}
	for at := range b.slow.sectors {
		got, errno := b.disk.Read(at)
		if want := b.slow.read(at); errno != api.OK || !bytes.Equal(got, want) {
			b.t.Fatalf("behind %v: Read(%d) %X and error %d, and not %X", b.slow.done, at, got, errno, want)
		}
	}
}

// newDisk is a disk that there can be.
func newDisk(t testing.TB, sectors int) *disk.Disk {
	t.Helper()
	d, errno := disk.New(sectors)
	if errno != api.OK || d == nil {
		t.Fatalf("New(%d): %v, error %d", sectors, d, errno)
	}
	return d
}

// full is a sector's bytes, all of them others, and other ones for each n below 256.
func full(n int) []byte {
	out := make([]byte, 64)
	for i := range out {
		out[i] = byte(n + 4*i)
	}
	return out
}

// write writes what may be written.
func write(t testing.TB, d *disk.Disk, at int, b []byte) {
	t.Helper()
	if errno := d.Write(at, b); errno != api.OK {
		t.Fatalf("Write(%d): error %d", at, errno)
	}
}

// reads looks whether a sector is read so.
func reads(t testing.TB, d *disk.Disk, at int, want []byte) {
	t.Helper()
	if got, errno := d.Read(at); errno != api.OK || !bytes.Equal(got, want) {
		t.Fatalf("Read(%d): %X and error %d, and not %X", at, got, errno, want)
	}
}

// keeps looks whether a sector is safe so.
func keeps(t testing.TB, d *disk.Disk, at int, want []byte) {
	t.Helper()
	if got := d.Dump()[at*64 : at*64+64]; !bytes.Equal(got, want) {
		t.Fatalf("sector %d is safe as %X, and not as %X", at, got, want)
	}
}

// waits looks whether so many writes are pending.
func waits(t testing.TB, d *disk.Disk, want int) {
	t.Helper()
	if got := d.Pending(); got != want {
		t.Fatalf("Pending %d, and not %d", got, want)
	}
}

// numbers is a stream of numbers that look like chance, and are always the same.
type numbers uint64

func (n *numbers) below(limit int) int {
	*n = *n*6364136223846793005 + 1442695040888963407
	return int(uint64(*n)>>33) % limit
}

// sector is bytes of a stream.
func (n *numbers) sector() []byte {
	out := make([]byte, 64)
	for i := range out {
		out[i] = byte(n.below(256))
	}
	return out
}

// cut is a cut of a stream, at most so long.
func (n *numbers) cut(most int) api.Cut {
	out := make(api.Cut, n.below(most+1))
	for i := range out {
		out[i] = n.below(2) == 1
	}
	return out
}
