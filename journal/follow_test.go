package journal_test

import (
	"bytes"
	"testing"

	"mooring/api"
	"mooring/disk"
	"mooring/journal"
)

// life is a disk and its journal, with what was put: told by what was done alone.
type life struct {
	t       *testing.T
	disk    *disk.Disk
	journal *journal.Journal
	records [][]byte
	safe    int    // how many of records are synced, or were there behind a crash
	bytes   []byte // what is read of the disk
}

func newLife(t *testing.T, sectors int) *life {
	t.Helper()
	l := &life{t: t, disk: newDisk(t, sectors), bytes: blank(sectors)}
	l.open()
	return l
}

// open opens the disk anew, whatever is pending.
func (l *life) open() {
	l.t.Helper()
	l.journal = open(l.t, l.disk)
	l.look(slowGreatest(l.bytes) + 1)
}

// used is how many sectors the records take.
func (l *life) used() int {
	n := 0
	for _, b := range l.records {
		n += needs(b)
	}
	return n
}

// look holds all that there is against what was done.
func (l *life) look(gen int) {
	l.t.Helper()
	tells(l.t, l.journal, l.records, gen, slowRoom(l.disk.Size()-l.used()))
	if got := read(l.t, l.disk); !bytes.Equal(got, l.bytes) {
		l.t.Fatalf("the disk is %X, and not %X", got, l.bytes)
	}
	pending := 0
	for _, b := range l.records[l.safe:] {
		pending += needs(b)
	}
	if l.disk.Pending() != pending {
		l.t.Fatalf("%d are pending, and not %d", l.disk.Pending(), pending)
	}
}

// put puts a record; false: there was no room for it.
func (l *life) put(b []byte) bool {
	l.t.Helper()
	fits, gen := needs(b) <= l.disk.Size()-l.used(), l.journal.Gen()
	errno := l.journal.Put(b)
	if fits != (errno == api.OK) || !fits && errno != api.ErrFull {
		l.t.Fatalf("Put of %d bytes, %d of %d sectors used: error %d", len(b), l.used(), l.disk.Size(), errno)
	}
	if fits {
		copy(l.bytes[64*l.used():], laid(gen, len(l.records)+1, b))
		l.records = append(l.records, b)
	}
	l.look(gen)
	return fits
}

func (l *life) sync() {
	l.t.Helper()
	l.journal.Sync()
	l.safe = len(l.records)
	l.look(l.journal.Gen())
	if !bytes.Equal(l.disk.Dump(), l.bytes) {
		l.t.Fatal("not all is safe behind a Sync")
	}
}

// crash cuts, opens anew, and looks: the records are those that were synced, and
// of those behind the ones up to the first that is not there whole.
func (l *life) crash(cut api.Cut) {
	l.t.Helper()
	var kept [][]byte
	write, torn := 0, false
	for i, b := range l.records {
		if i >= l.safe {
			for range needs(b) {
				torn = torn || write >= len(cut) || !cut[write]
				write++
			}
		}
		if !torn {
			kept = append(kept, b)
		}
	}
	l.disk.Crash(cut)
	l.records, l.safe = kept, len(kept)
	l.bytes = l.disk.Dump()
	l.open()
	parses(l.t, l.bytes, kept)
}

// Jo4: any puts, syncs, openings and crashes, by any cut at any place, many times.
func TestWholeOrNotAtAll(t *testing.T) {
	n := numbers(23)
	for range 400 {
		l := newLife(t, 1+n.below(14))
		for range 40 {
			switch n.below(10) {
			case 0, 1, 2, 3, 4, 5:
				l.put(n.record())
			case 6:
				l.sync()
			case 7:
				l.open()
			default:
				l.crash(n.cut(l.disk.Pending() + 2))
			}
		}
	}
}

// Jo4: a crash behind every put, with little kept, so that what is left over
// lies in many layers.
func TestManyCrashes(t *testing.T) {
	n := numbers(29)
	for range 300 {
		l := newLife(t, 8)
		for range 12 {
			for l.put(n.record()) && n.below(4) > 0 {
			}
			cut := make(api.Cut, l.disk.Pending())
			for i := range cut {
				cut[i] = n.below(3) == 0
			}
			l.crash(cut)
		}
	}
}

// Jo4: three times records are put and one crash of all that there can be comes:
// every cut of every one of them.
func TestEveryCutThrice(t *testing.T) {
	orders := [][3][]int{
		{{60, 5}, {5, 60}, {5, 5, 5}},
		{{0, 0, 0}, {0, 0, 0}, {0, 0, 0}},
		{{102, 1}, {1, 102}, {153}},
		{{5, 5, 5}, {102}, {60, 51}},
	}
	for _, order := range orders {
		for bits := range 1 << 9 {
			l := newLife(t, 4)
			for round, lengths := range order {
				for i, n := range lengths {
					// The rounds put the same bytes at the same places: the
					// generation alone tells what is left over.
					l.put(some(n, i))
				}
				cut := make(api.Cut, 3)
				for i := range cut {
					cut[i] = bits>>(3*round+i)&1 == 1
				}
				l.crash(cut)
			}
		}
	}
}

// Jo4: what was synced is there behind any crash, whatever is put and lost behind
// it.
func TestSyncedIsThere(t *testing.T) {
	l := newLife(t, 16)
	for i := range 4 {
		l.put(some(20*i, i))
	}
	l.sync()
	was := l.used()
	for bits := range 1 << 4 {
		if bits&3 == 3 {
			continue // the first of both would be there
		}
		l.put(some(60, bits))
		l.put(some(61, bits))
		cut := make(api.Cut, 4)
		for i := range cut {
			cut[i] = bits>>i&1 == 1
		}
		l.crash(cut)
		if l.used() != was {
			t.Fatalf("cut %v: %d sectors used, and not %d", cut, l.used(), was)
		}
	}
}

// Jo4: a record that was lost does not come back where another one is put ahead
// of its place, though its sector is still there, whole, and of the next number.
func TestLostRecordsDoNotComeBack(t *testing.T) {
	d := newDisk(t, 6)
	j := open(t, d)
	put(t, j, some(1, 1))
	j.Sync()
	put(t, j, some(2, 2))
	put(t, j, some(3, 3))
	d.Crash(api.Cut{false, true})
	j = open(t, d)
	tells(t, j, [][]byte{some(1, 1)}, 2, 5*51)
	put(t, j, some(4, 4))
	j.Sync()
	tells(t, open(t, d), [][]byte{some(1, 1), some(4, 4)}, 3, 4*51)
	parses(t, d.Dump(), [][]byte{some(1, 1), some(4, 4)})
}

// Jo4: a part that is left over is not taken for one of a record that is put
// later in its place, and lost in part.
func TestLostPartsAreNotMixed(t *testing.T) {
	d := newDisk(t, 6)
	put(t, open(t, d), some(60, 1))
	d.Crash(api.Cut{false, true})
	put(t, open(t, d), some(60, 2))
	d.Crash(api.Cut{true, false})
	tells(t, open(t, d), nil, 3, 6*51)
	parses(t, d.Dump(), nil)
}

// Jo1, Jo2, Jo4: any bytes, taken as what is done.
func FuzzLife(f *testing.F) {
	f.Add([]byte{8, 1, 2, 3, 250, 4, 240, 5})
	f.Add([]byte{3, 200, 1, 230, 9, 9, 251, 7, 220})
	f.Fuzz(func(t *testing.T, script []byte) {
		if len(script) == 0 || len(script) > 40 {
			return
		}
		l := newLife(t, 1+int(script[0])%12)
		for _, v := range script[1:] {
			n := numbers(v)
			switch {
			case v < 200:
				l.put(n.record())
			case v < 215:
				l.sync()
			case v < 225:
				l.open()
			default:
				l.crash(n.cut(l.disk.Pending() + 2))
			}
		}
	})
}
