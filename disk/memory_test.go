package disk_test

import (
	"bytes"
	"slices"
	"testing"

	"mooring/api"
)

// scribble writes over bytes and over all the room behind their end.
func scribble(b []byte) {
	b = b[:cap(b)]
	for i := range b {
		b[i] ^= 0xFF
	}
}

// R3: bytes that are written are not changed and not kept, nor is the room
// behind them.
func TestWrittenBytesAreNotKept(t *testing.T) {
	for _, flush := range []bool{false, true} {
		d := newDisk(t, 2)
		room := append(append([]byte{1}, full(9)...), 2, 3, 4)
		was := bytes.Clone(room)
		write(t, d, 1, room[1:65])
		if flush {
			d.Flush()
		}
		if !bytes.Equal(room, was) {
			t.Fatal("Write, or Flush, changed what was handed in")
		}
		scribble(room)
		reads(t, d, 1, full(9))
		if flush {
			keeps(t, d, 1, full(9))
		}
		d.Flush()
		reads(t, d, 1, full(9))
		keeps(t, d, 1, full(9))
		was = bytes.Clone(room)
		d.Rot(64, 1)
		write(t, d, 1, full(8))
		d.Flush()
		if !bytes.Equal(room, was) {
			t.Fatal("what was handed in turned with the disk")
		}
	}
}

// R3: one list may be written to several sectors, and turned between.
func TestOneListIsWrittenOften(t *testing.T) {
	d := newDisk(t, 4)
	b := make([]byte, 64)
	for at := range 4 {
		copy(b, full(at+1))
		write(t, d, at, b)
	}
	clear(b)
	d.Crash(api.Cut{true, false, true, true})
	for at, want := range [][]byte{full(1), make([]byte, 64), full(3), full(4)} {
		reads(t, d, at, want)
	}
}

// R3: what is read is new memory, of what is pending and of what is safe.
func TestReadIsNewMemory(t *testing.T) {
	d := newDisk(t, 3)
	write(t, d, 0, full(1))
	d.Flush()
	write(t, d, 1, full(2))
	wants := [][]byte{full(1), full(2), make([]byte, 64)}
	for at, want := range wants {
		first, _ := d.Read(at)
		second, _ := d.Read(at)
		scribble(first)
		if !bytes.Equal(second, want) {
			t.Fatalf("sector %d: two answers share memory", at)
		}
		scribble(second)
		for i, want := range wants {
			reads(t, d, i, want)
		}
		keeps(t, d, 1, make([]byte, 64))
	}
	b, _ := d.Read(1)
	d.Rot(64, 1)
	write(t, d, 1, full(7))
	d.Flush()
	if !bytes.Equal(b, full(2)) {
		t.Error("what was read turned with the disk")
	}
	scribble(b)
	reads(t, d, 1, full(7))
}

// R3: so is a dump.
func TestDumpIsNewMemory(t *testing.T) {
	d := newDisk(t, 2)
	write(t, d, 0, full(1))
	d.Flush()
	write(t, d, 1, full(2))
	want := append(full(1), make([]byte, 64)...)
	first, second := d.Dump(), d.Dump()
	scribble(first)
	if !bytes.Equal(second, want) || !bytes.Equal(d.Dump(), want) {
		t.Fatal("a dump shares memory with another one, or with the disk")
	}
	reads(t, d, 0, full(1))
	reads(t, d, 1, full(2))
	d.Rot(0, 1)
	d.Flush()
	if !bytes.Equal(second, want) {
		t.Error("a dump turned with the disk")
	}
}

// R3: a cut is not changed and not kept, nor is the room behind it, which says
// nothing.
func TestCutIsNotKept(t *testing.T) {
	d := newDisk(t, 3)
	for at := range 3 {
		write(t, d, at, full(at+1))
	}
	room := api.Cut{true, false, true, true, true}
	was := slices.Clone(room)
	d.Crash(room[:2])
	if !slices.Equal(room, was) {
		t.Fatal("Crash changed the cut")
	}
	reads(t, d, 0, full(1))
	reads(t, d, 1, make([]byte, 64))
	reads(t, d, 2, make([]byte, 64))
	room[1] = true
	reads(t, d, 1, make([]byte, 64))
	write(t, d, 2, full(3))
	d.Crash(nil)
	reads(t, d, 2, make([]byte, 64))
}
