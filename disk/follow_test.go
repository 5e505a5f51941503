package disk_test

import (
	"testing"

	"mooring/api"
)

// someDeed is a deed of a stream with a disk of so many sectors.
func someDeed(n *numbers, sectors int) deed {
	switch kind := []int{doWrite, doWrite, doWrite, doWrite, doFlush, doCrash, doRot, doRot}[n.below(8)]; kind {
	case doWrite:
		return deed{kind: kind, at: n.below(sectors), data: n.sector()}
	case doCrash:
		return deed{kind: kind, cut: n.cut(6)}
	case doRot:
		return deed{kind: kind, at: n.below(sectors * 64), x: byte(n.below(256))}
	default:
		return deed{kind: kind}
	}
}

// Di1, Di2: deeds in many orders; behind each of them all that the disk tells is
// as the chapter's words have it.
func TestManyOrders(t *testing.T) {
	n := numbers(7)
	for range 150 {
		sectors := 1 + n.below(4)
		b := newBoth(t, sectors)
		for range 40 {
			b.do(someDeed(&n, sectors))
		}
	}
}

// Di1, Di2: all orders of five deeds out of eight, with two sectors.
func TestAllShortOrders(t *testing.T) {
	some := []deed{
		{kind: doWrite, at: 0, data: full(1)},
		{kind: doWrite, at: 0, data: full(2)},
		{kind: doWrite, at: 1, data: full(3)},
		{kind: doFlush},
		{kind: doCrash},
		{kind: doCrash, cut: api.Cut{true}},
		{kind: doCrash, cut: api.Cut{false, true, true}},
		{kind: doRot, at: 63, x: 0x40},
	}
	for order := range 1 << 15 {
		d := newDisk(t, 2)
		b := &both{t, d, slowDisk{sectors: 2}}
		for i := range 5 {
			e := some[order>>(3*i)&7]
			if errno := e.do(d); errno != api.OK {
				t.Fatalf("%v: error %d", e, errno)
			}
			b.slow.done = append(b.slow.done, e)
		}
		b.look()
	}
}

// flushed is what was safe of a disk when it was flushed last, and which sectors
// were written anew, which bytes rotted, since.
type flushed struct {
	dump   []byte
	anew   []bool
	rotted []bool
}

// Di3: what was flushed is there behind any crash, but where it was written
// anew, or rotted.
func TestFlushedIsThere(t *testing.T) {
	n := numbers(11)
	for range 300 {
		sectors := 1 + n.below(8)
		d := newDisk(t, sectors)
		for range 1 + n.below(20) {
			write(t, d, n.below(sectors), n.sector())
		}
		d.Flush()
		f := flushed{d.Dump(), make([]bool, sectors), make([]bool, sectors*64)}
		for range n.below(12) {
			switch n.below(4) {
			case 0:
				at := n.below(sectors)
				write(t, d, at, n.sector())
				f.anew[at] = true
			case 1:
				at := n.below(sectors * 64)
				d.Rot(at, 0xFF)
				f.rotted[at] = true
			default:
				d.Crash(n.cut(8))
			}
		}
		d.Crash(n.cut(8))
		now := d.Dump()
		for at, v := range f.dump {
			if !f.anew[at/64] && !f.rotted[at] && now[at] != v {
				t.Fatalf("byte %d was flushed as %X, and is %X", at, v, now[at])
			}
		}
		for at := range sectors {
			reads(t, d, at, now[at*64:at*64+64])
		}
	}
}

// Di3: a sector is never a mixture of two writes: behind any crash it is one of
// those that were written of it since the flush, or as it was flushed.
func TestSectorsAreWhole(t *testing.T) {
	n := numbers(13)
	for range 500 {
		d := newDisk(t, 2)
		could := [2][]string{}
		for at := range 2 {
			b := n.sector()
			write(t, d, at, b)
			could[at] = append(could[at], string(b))
		}
		d.Flush()
		for range n.below(8) {
			at, b := n.below(2), n.sector()
			write(t, d, at, b)
			could[at] = append(could[at], string(b))
		}
		d.Crash(n.cut(9))
		for at := range 2 {
			got, _ := d.Read(at)
			found := false
			for _, s := range could[at] {
				found = found || s == string(got)
			}
			if !found {
				t.Fatalf("sector %d is %X, and was never written so", at, got)
			}
		}
	}
}

// Di1 to Di3: any bytes, taken as deeds.
func FuzzDeeds(f *testing.F) {
	f.Add([]byte{2, 0, 1, 1, 1, 2, 5})
	f.Add([]byte{3, 0, 7, 6, 7, 9, 0, 4, 130, 6})
	f.Fuzz(func(t *testing.T, script []byte) {
		if len(script) == 0 || len(script) > 40 {
			return
		}
		sectors := 1 + int(script[0])%3
		b := newBoth(t, sectors)
		for _, v := range script[1:] {
			n := numbers(v)
			b.do(someDeed(&n, sectors))
		}
	})
}
