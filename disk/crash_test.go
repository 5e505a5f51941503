package disk_test

import (
	"bytes"
	"math"
	"testing"

	"mooring/api"
)

// The chapter's example: Write 0, Write 1, Crash of false, true.
func TestExample(t *testing.T) {
	d := newDisk(t, 2)
	write(t, d, 0, full(1))
	write(t, d, 1, full(2))
	d.Crash(api.Cut{false, true})
	reads(t, d, 0, make([]byte, 64))
	reads(t, d, 1, full(2))
	keeps(t, d, 0, make([]byte, 64))
	keeps(t, d, 1, full(2))
	waits(t, d, 0)
}

// Di2: every cut of four writes, of one sector and of several, shorter and longer
// than what is pending: those are safe at whose number it says true.
func TestEveryCut(t *testing.T) {
	orders := [][]int{{0, 0, 0, 0}, {0, 1, 0, 1}, {1, 0, 0, 1}, {0, 1, 2, 0}, {2, 2, 1, 1}, {2}, {}}
	for _, order := range orders {
		for length := range 7 {
			for bits := range 1 << length {
				cut := make(api.Cut, length)
				for i := range cut {
					cut[i] = bits>>i&1 == 1
				}
				b := newBoth(t, 3)
				b.do(deed{kind: doWrite, at: 0, data: full(100)})
				b.do(deed{kind: doFlush})
				for i, at := range order {
					b.do(deed{kind: doWrite, at: at, data: full(i + 1)})
				}
				b.do(deed{kind: doCrash, cut: cut})
				waits(t, b.disk, 0)
			}
		}
	}
}

// Di2: of a sector that was written several times any may be safe: the last of
// those that the cut leaves, and not the last of all.
func TestCrashLeavesAnyOfSeveral(t *testing.T) {
	for kept := range 5 {
		d := newDisk(t, 1)
		for i := range 5 {
			write(t, d, 0, full(i+1))
		}
		reads(t, d, 0, full(5))
		cut := make(api.Cut, 5)
		cut[kept] = true
		d.Crash(cut)
		reads(t, d, 0, full(kept+1))
		keeps(t, d, 0, full(kept+1))
	}
}

// Di2: a cut that is nil or empty leaves nothing of what is pending; so does one
// of false, however long; what is beyond a cut's end is lost.
func TestCrashLosesWhatTheCutDoesNotName(t *testing.T) {
	for _, cut := range []api.Cut{nil, {}, {false}, make(api.Cut, 3), make(api.Cut, 100)} {
		d := newDisk(t, 3)
		write(t, d, 1, full(9))
		d.Flush()
		for at := range 3 {
			write(t, d, at, full(at+1))
		}
		d.Crash(cut)
		for at, want := range [][]byte{make([]byte, 64), full(9), make([]byte, 64)} {
			reads(t, d, at, want)
			keeps(t, d, at, want)
		}
		waits(t, d, 0)
	}
	d := newDisk(t, 3)
	for at := range 3 {
		write(t, d, at, full(at+1))
	}
	d.Crash(api.Cut{true, true})
	reads(t, d, 1, full(2))
	reads(t, d, 2, make([]byte, 64))
}

// Di2: a cut that says more than what is pending is no fault, with nothing
// pending, too; and it says nothing of later writes.
func TestCutIsLongerThanWhatIsPending(t *testing.T) {
	d := newDisk(t, 2)
	d.Crash(api.Cut{true, true, true})
	if waits(t, d, 0); !bytes.Equal(d.Dump(), make([]byte, 128)) {
		t.Error("a crash with nothing pending turned something")
	}
	write(t, d, 0, full(1))
	d.Crash(api.Cut{true, true, true})
	write(t, d, 1, full(2))
	d.Crash(nil)
	reads(t, d, 0, full(1))
	reads(t, d, 1, make([]byte, 64))
}

// Di2: a crash ends what was pending: its numbers begin with 0 again, as behind
// a flush, and what was lost does not come back.
func TestNumbersBeginAgain(t *testing.T) {
	d := newDisk(t, 3)
	write(t, d, 0, full(1))
	write(t, d, 1, full(2))
	d.Flush()
	write(t, d, 2, full(3))
	d.Crash(api.Cut{true})
	reads(t, d, 2, full(3))
	write(t, d, 0, full(4))
	d.Crash(nil)
	reads(t, d, 0, full(1))
	write(t, d, 1, full(5))
	d.Crash(api.Cut{true})
	reads(t, d, 1, full(5))
	d.Flush()
	reads(t, d, 0, full(1))
	keeps(t, d, 0, full(1))
}

// Di2: Rot turns one byte, at once and safe; the first and the last one of the
// disk and of a sector, too.
func TestRot(t *testing.T) {
	for _, at := range []int{0, 1, 63, 64, 65, 127, 128, 190, 191} {
		for _, x := range []byte{1, 0x80, 0xFF, 0x5A} {
			d := newDisk(t, 3)
			want := make([]byte, 0, 192)
			for i := range 3 {
				write(t, d, i, full(i+1))
				want = append(want, full(i+1)...)
			}
			d.Flush()
			if errno := d.Rot(at, x); errno != api.OK {
				t.Fatalf("Rot(%d, %X): error %d", at, x, errno)
			}
			want[at] ^= x
			for range 2 {
				if waits(t, d, 0); !bytes.Equal(d.Dump(), want) {
					t.Fatalf("Rot(%d, %X): Dump %X, and not %X", at, x, d.Dump(), want)
				}
				for i := range 3 {
					reads(t, d, i, want[i*64:i*64+64])
				}
				d.Crash(nil)
			}
			d.Rot(at, x)
			want[at] ^= x
			if !bytes.Equal(d.Dump(), want) {
				t.Fatalf("Rot(%d, %X) twice: it is not as it was", at, x)
			}
		}
	}
}

// Di2, R2: there is no such byte: nothing has changed; by 0: nothing, and no
// error.
func TestRotIsRefused(t *testing.T) {
	for _, n := range []int{1, 3, 4096} {
		d := newDisk(t, n)
		write(t, d, 0, full(1))
		d.Flush()
		write(t, d, n-1, full(2))
		was := d.Dump()
		for _, at := range []int{math.MinInt, -64 * n, -64, -1, 64 * n, 64*n + 1, math.MaxInt} {
			for _, x := range []byte{0, 1, 0xFF} {
				if errno := d.Rot(at, x); errno != api.ErrArg {
					t.Errorf("of %d: Rot(%d, %X): error %d", n, at, x, errno)
				}
			}
		}
		for _, at := range []int{0, 63, 64*n - 1} {
			if errno := d.Rot(at, 0); errno != api.OK {
				t.Errorf("of %d: Rot(%d, 0): error %d", n, at, errno)
			}
		}
		if waits(t, d, 1); !bytes.Equal(d.Dump(), was) {
			t.Errorf("of %d: what was refused turned something", n)
		}
		reads(t, d, n-1, full(2))
	}
}

// Di2: Rot of a sector that is pending: what is safe rots, what is pending is
// read as it was written, and stays pending.
func TestRotOfPending(t *testing.T) {
	b := newBoth(t, 2)
	b.do(deed{kind: doWrite, at: 1, data: full(1)})
	b.do(deed{kind: doFlush})
	b.do(deed{kind: doWrite, at: 1, data: full(2)})
	b.do(deed{kind: doWrite, at: 1, data: full(3)})
	b.do(deed{kind: doRot, at: 64 + 5, x: 0x81})
	rotten := full(1)
	rotten[5] ^= 0x81
	reads(t, b.disk, 1, full(3))
	keeps(t, b.disk, 1, rotten)
	waits(t, b.disk, 2)
	b.do(deed{kind: doCrash, cut: api.Cut{}})
	reads(t, b.disk, 1, rotten)
	keeps(t, b.disk, 1, rotten)
}

// Di2: what of the pending is safe later has the sector's bytes as they were
// written, behind a flush and behind a crash.
func TestRotOfPendingIsWrittenOver(t *testing.T) {
	ends := map[int]deed{
		3: {kind: doFlush},
		2: {kind: doCrash, cut: api.Cut{true}},
		1: {kind: doCrash, cut: api.Cut{false, false, true}},
	}
	for kept, end := range ends {
		b := newBoth(t, 1)
		b.do(deed{kind: doWrite, at: 0, data: full(2)})
		b.do(deed{kind: doWrite, at: 0, data: full(3)})
		b.do(deed{kind: doRot, at: 0, x: 7})
		b.do(deed{kind: doRot, at: 63, x: 8})
		b.do(end)
		want := full(kept)
		if kept == 1 {
			want = make([]byte, 64)
			want[0], want[63] = 7, 8
		}
		reads(t, b.disk, 0, want)
		keeps(t, b.disk, 0, want)
		b.do(deed{kind: doRot, at: 63, x: 8})
		b.do(deed{kind: doCrash, cut: api.Cut{true, true}})
	}
}

// Di2: Dump is what is safe, and not what is pending; a refused call, a read and
// a dump turn none of it.
func TestDumpIsWhatIsSafe(t *testing.T) {
	d := newDisk(t, 2)
	write(t, d, 0, full(1))
	write(t, d, 1, full(2))
	d.Crash(api.Cut{true})
	write(t, d, 0, full(3))
	write(t, d, 1, full(4))
	want := append(full(1), make([]byte, 64)...)
	if !bytes.Equal(d.Dump(), want) {
		t.Errorf("Dump %X, and not %X", d.Dump(), want)
	}
	d.Flush()
	want = append(full(3), full(4)...)
	if !bytes.Equal(d.Dump(), want) {
		t.Errorf("behind a flush: Dump %X, and not %X", d.Dump(), want)
	}
}

func BenchmarkCrash(b *testing.B) {
	d := newDisk(b, api.MaxSectors)
	n := numbers(1)
	cut := n.cut(256)
	data := full(1)
	for b.Loop() {
		for at := range 256 {
			d.Write(at%16, data)
		}
		d.Crash(cut)
	}
}
