package disk_test

import (
	"bytes"
	"math"
	"testing"

	"mooring/api"
	"mooring/disk"
)

// Di1: there are disks of 1 to 4096 sectors, all 0 in the beginning, and no others.
func TestNew(t *testing.T) {
	for _, n := range []int{1, 2, 3, 63, 64, 65, 4095, 4096} {
		d := newDisk(t, n)
		if d.Size() != n || d.Pending() != 0 || !bytes.Equal(d.Dump(), make([]byte, n*64)) {
			t.Errorf("New(%d): Size %d, Pending %d, or not all 0", n, d.Size(), d.Pending())
		}
		for at := range n {
			reads(t, d, at, make([]byte, 64))
		}
	}
	for _, n := range []int{math.MinInt, -4096, -1, 0, 4097, 1 << 31, 1<<58 + 1, math.MaxInt} {
		if d, errno := disk.New(n); d != nil || errno != api.ErrArg {
			t.Errorf("New(%d): %v, error %d", n, d, errno)
		}
	}
}

// Di1: what is written is read at once, of its sector alone, and safe behind a
// flush.
func TestWriteIsReadAtOnce(t *testing.T) {
	for _, n := range []int{1, 2, 3, 64, 4096} {
		for _, at := range []int{0, n / 2, n - 1} {
			d := newDisk(t, n)
			write(t, d, at, full(at+1))
			reads(t, d, at, full(at+1))
			waits(t, d, 1)
			if !bytes.Equal(d.Dump(), make([]byte, n*64)) {
				t.Fatalf("of %d: sector %d is safe ahead of a flush", n, at)
			}
			d.Flush()
			want := make([]byte, n*64)
			copy(want[at*64:], full(at+1))
			if !bytes.Equal(d.Dump(), want) || d.Pending() != 0 {
				t.Fatalf("of %d: sector %d is not safe, or others turned", n, at)
			}
			for i := range n {
				reads(t, d, i, want[i*64:i*64+64])
			}
		}
	}
}

// Di1: every sector of a disk can be written, and keeps its own bytes.
func TestWriteEverySector(t *testing.T) {
	d := newDisk(t, 4096)
	want := make([]byte, 0, 4096*64)
	for at := range 4096 {
		b := full(at)
		b[0], b[1] = byte(at), byte(at>>8)
		write(t, d, at, b)
		want = append(want, b...)
	}
	waits(t, d, 4096)
	for at := range 4096 {
		reads(t, d, at, want[at*64:at*64+64])
	}
	d.Flush()
	if !bytes.Equal(d.Dump(), want) {
		t.Error("not every sector is safe as it was written")
	}
}

// Di1: what is pending are writes, and not sectors; the last one of a sector is
// read, and safe behind a flush.
func TestPendingCountsWrites(t *testing.T) {
	d := newDisk(t, 2)
	for i := range 300 {
		write(t, d, i%3%2, full(i))
		waits(t, d, i+1)
	}
	reads(t, d, 0, full(299))
	reads(t, d, 1, full(298))
	d.Flush()
	waits(t, d, 0)
	keeps(t, d, 0, full(299))
	keeps(t, d, 1, full(298))
	d.Flush()
	waits(t, d, 0)
	keeps(t, d, 0, full(299))
}

// Di1: a write of what is there already is one, too.
func TestWriteOfTheSame(t *testing.T) {
	d := newDisk(t, 1)
	write(t, d, 0, make([]byte, 64))
	waits(t, d, 1)
	write(t, d, 0, make([]byte, 64))
	waits(t, d, 2)
	d.Crash(api.Cut{true, true})
	waits(t, d, 0)
}

// Di1, R2: no such sector, or not 64 bytes: it is refused, and nothing has
// changed, then and behind a flush or a crash.
func TestWriteIsRefused(t *testing.T) {
	for _, n := range []int{1, 3, 64} {
		b := newBoth(t, n)
		b.do(deed{kind: doWrite, at: 0, data: full(1)})
		b.do(deed{kind: doFlush})
		b.do(deed{kind: doWrite, at: n - 1, data: full(2)})
		for _, at := range []int{math.MinInt, -n, -1, n, n + 1, n * 64, math.MaxInt/64 + 1, math.MaxInt} {
			for _, data := range [][]byte{nil, full(3)[:63], full(3), append(full(3), 4)} {
				if errno := b.disk.Write(at, data); errno != api.ErrArg {
					t.Errorf("of %d: Write(%d) of %d bytes: error %d", n, at, len(data), errno)
				}
			}
		}
		for _, at := range []int{0, n - 1} {
			for _, data := range [][]byte{nil, {}, {1}, full(3)[:63], append(full(3), 4), make([]byte, 128)} {
				if errno := b.disk.Write(at, data); errno != api.ErrArg {
					t.Errorf("of %d: Write(%d) of %d bytes: error %d", n, at, len(data), errno)
				}
			}
		}
		b.look()
		b.do(deed{kind: doCrash, cut: api.Cut{false, true, true}})
	}
}

// Di1, R2: no such sector: it is refused, and nothing is told beside that.
func TestReadIsRefused(t *testing.T) {
	for _, n := range []int{1, 3, 4096} {
		d := newDisk(t, n)
		write(t, d, n-1, full(1))
		for _, at := range []int{math.MinInt, -n, -1, n, n + 1, n * 64, math.MaxInt/64 + 1, math.MaxInt} {
			if b, errno := d.Read(at); len(b) != 0 || errno != api.ErrArg {
				t.Errorf("of %d: Read(%d): %X, error %d", n, at, b, errno)
			}
			if errno := d.Write(at, full(2)); errno != api.ErrArg {
				t.Errorf("of %d: Write(%d): error %d", n, at, errno)
			}
		}
		reads(t, d, n-1, full(1))
		waits(t, d, 1)
	}
}

// Di1: a list of 63, 64 and 65 bytes, cut out of one with room behind it: its
// length says how many bytes it has.
func TestWriteGoesByLength(t *testing.T) {
	d := newDisk(t, 1)
	room := bytes.Repeat([]byte{7}, 200)
	for n, want := range map[int]api.Errno{0: api.ErrArg, 63: api.ErrArg, 64: api.OK, 65: api.ErrArg, 128: api.ErrArg} {
		if errno := d.Write(0, room[:n]); errno != want {
			t.Errorf("Write of %d bytes: error %d, and not %d", n, errno, want)
		}
	}
	waits(t, d, 1)
	reads(t, d, 0, room[:64])
}

// R1, and the chapter's last words: a Disk that New did not give tells ErrArg, 0
// and nothing, and stays so.
func TestNoDisk(t *testing.T) {
	for what, d := range map[string]*disk.Disk{"nil": nil, "zero": {}, "new": new(disk.Disk)} {
		for range 2 {
			for _, at := range []int{math.MinInt, -1, 0, 1, math.MaxInt} {
				if errno := d.Write(at, full(1)); errno != api.ErrArg {
					t.Errorf("%s: Write(%d): error %d", what, at, errno)
				}
				if b, errno := d.Read(at); len(b) != 0 || errno != api.ErrArg {
					t.Errorf("%s: Read(%d): %X, error %d", what, at, b, errno)
				}
				if errno := d.Rot(at, 1); errno != api.ErrArg {
					t.Errorf("%s: Rot(%d): error %d", what, at, errno)
				}
			}
			if errno := d.Write(0, nil); errno != api.ErrArg {
				t.Errorf("%s: Write of nothing: error %d", what, errno)
			}
			if d.Size() != 0 || d.Pending() != 0 || len(d.Dump()) != 0 {
				t.Errorf("%s: Size %d, Pending %d, Dump %X", what, d.Size(), d.Pending(), d.Dump())
			}
			d.Flush()
			d.Crash(nil)
			d.Crash(api.Cut{true, false})
		}
	}
}

// R4: two disks with which the same was done tell the same; one alone with which
// something was done leaves the other as it was.
func TestDisksStandApart(t *testing.T) {
	n := numbers(5)
	one, two, idle := newDisk(t, 3), newDisk(t, 3), newDisk(t, 3)
	for range 300 {
		e := someDeed(&n, 3)
		if a, b := e.do(one), e.do(two); a != b {
			t.Fatalf("%v: error %d, and %d", e, a, b)
		}
		if !bytes.Equal(one.Dump(), two.Dump()) || one.Pending() != two.Pending() {
			t.Fatalf("%v: two disks tell other things", e)
		}
	}
	if idle.Pending() != 0 || !bytes.Equal(idle.Dump(), make([]byte, 3*64)) {
		t.Error("a disk turned with which nothing was done")
	}
}

// Di1, Di2: questions turn nothing.
func TestQuestionsTurnNothing(t *testing.T) {
	b := newBoth(t, 2)
	b.do(deed{kind: doWrite, at: 0, data: full(1)})
	b.do(deed{kind: doFlush})
	b.do(deed{kind: doWrite, at: 0, data: full(2)})
	b.do(deed{kind: doWrite, at: 1, data: full(3)})
	for range 10 {
		b.look()
	}
	b.do(deed{kind: doCrash})
	b.look()
}

func BenchmarkWriteAndFlush(b *testing.B) {
	d := newDisk(b, api.MaxSectors)
	data := full(1)
	b.SetBytes(256 * api.Sector)
	for b.Loop() {
		for at := range 256 {
			d.Write(at, data)
		}
		d.Flush()
	}
}

func BenchmarkRead(b *testing.B) {
	d := newDisk(b, api.MaxSectors)
	for at := range api.MaxSectors / 2 {
		d.Write(2*at, full(at))
	}
	b.SetBytes(api.MaxSectors * api.Sector)
	for b.Loop() {
		for at := range api.MaxSectors {
			d.Read(at)
		}
	}
}
