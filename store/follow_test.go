package store_test

import (
	"bytes"
	"testing"

	"mooring/api"
	"mooring/disk"
	"mooring/journal"
	"mooring/store"
)

// life is a disk and its store, with the batches that were done: told by what was
// done alone.
type life struct {
	t     *testing.T
	disk  *disk.Disk
	store *store.Store
	done  [][]api.Act
	pairs []pair // what they leave
	used  int    // sectors
}

func newLife(t *testing.T, sectors int) *life {
	t.Helper()
	l := &life{t: t, disk: newDisk(t, sectors)}
	l.open()
	return l
}

// open opens the disk anew, and looks.
func (l *life) open() {
	l.t.Helper()
	l.store = open(l.t, l.disk)
	l.look()
}

// look holds all that there is against what was done.
func (l *life) look() {
	l.t.Helper()
	tells(l.t, l.store, l.pairs, len(l.done))
	keeps(l.t, l.disk, l.done...)
}

// wants is what Apply must tell of a batch.
func (l *life) wants(batch []api.Act) api.Errno {
	if wrong := slowWrong(batch); wrong != api.OK {
		return wrong
	}
	if _, ok := behind(l.pairs, batch); !ok {
		return api.ErrNone
	}
	if needs(batch) > l.disk.Size()-l.used {
		return api.ErrFull
	}
	return api.OK
}

// count takes a batch for done.
func (l *life) count(batch []api.Act) {
	l.pairs, _ = behind(l.pairs, batch)
	l.done = append(l.done, batch)
	l.used += needs(batch)
}

// apply applies a batch, done or refused, and looks.
func (l *life) apply(batch []api.Act) api.Errno {
	l.t.Helper()
	want, was := l.wants(batch), l.disk.Dump()
	if errno := l.store.Apply(batch); errno != want {
		l.t.Fatalf("Apply of %v: error %d, and not %d", batch, errno, want)
	}
	if want == api.OK {
		l.count(batch)
	} else if !bytes.Equal(l.disk.Dump(), was) {
		l.t.Fatalf("a batch that was refused turned the disk: error %d", want)
	}
	l.look()
	return want
}

// crash is one between two calls: whatever the cut, nothing is lost.
func (l *life) crash(cut api.Cut) {
	l.t.Helper()
	l.disk.Crash(cut)
	l.open()
}

// torn is a crash in the midst of a batch that could be done: it is written, and
// not safe yet. Behind it the batch is there, if all its sectors are; else nothing
// of it is.
func (l *life) torn(batch []api.Act, cut api.Cut) {
	l.t.Helper()
	if l.wants(batch) != api.OK {
		return
	}
	j, errno := journal.Open(l.disk)
	if errno != api.OK || j.Put(slowEncode(batch)) != api.OK {
		l.t.Fatalf("%d bytes are not written: error %d", len(slowEncode(batch)), errno)
	}
	whole := len(cut) >= l.disk.Pending()
	for i := range min(len(cut), l.disk.Pending()) {
		whole = whole && cut[i]
	}
	if whole {
		l.count(batch)
	}
	l.crash(cut)
}

// St2, St3: any batches, done and refused, crashes by any cut at any place, and
// new openings, many times.
func TestAllOrNothing(t *testing.T) {
	n := numbers(41)
	told := map[api.Errno]int{}
	for range 300 {
		l := newLife(t, 1+n.below(24))
		for range 30 {
			switch batch := n.batch(l.pairs); n.below(10) {
			case 0:
				l.open()
			case 1, 2:
				l.crash(n.cut(4))
			case 3:
				l.torn(batch, n.cut(needs(batch)+1))
			case 4:
				told[l.apply(n.wrong(batch))]++
			default:
				told[l.apply(batch)]++
			}
		}
	}
	for _, errno := range []api.Errno{api.OK, api.ErrArg, api.ErrFull, api.ErrLong, api.ErrNone} {
		if told[errno] < 100 {
			t.Errorf("error %d was told %d times alone", errno, told[errno])
		}
	}
}

// wrong is a batch with something behind it that may not be.
func (n *numbers) wrong(batch []api.Act) []api.Act {
	switch n.below(4) {
	case 0:
		return append(batch, take(""))
	case 1:
		return append(batch, api.Act{Key: n.key(), Data: []byte{1}})
	case 2:
		return append(batch, set(n.key(), some(4097, 1)))
	}
	for range 4 {
		batch = append(batch, set(n.key(), some(4096, n.below(9))))
	}
	return batch
}

// St3: a crash behind each batch, and in the midst of each: every cut of every one
// of them.
func TestEveryCut(t *testing.T) {
	first := []api.Act{set("a", "1"), set("b", some(60, 1)), set("gone", "")}
	batch := []api.Act{set("a", "2"), take("gone"), set("c", some(120, 1)), take("b"), set("d", "")}
	if needs(batch) != 3 {
		t.Fatalf("%d sectors", needs(batch))
	}
	for bits := range 1 << 6 {
		l := newLife(t, 16)
		l.apply(first)
		for round := range 2 {
			cut := make(api.Cut, 3)
			for i := range cut {
				cut[i] = bits>>(3*round+i)&1 == 1
			}
			l.crash(cut)
			l.torn(batch, cut)
			// What is left over of the torn one lies where this is written.
			l.apply([]api.Act{set("e", some(round, 1))})
		}
		l.apply(batch)
		l.crash(nil)
	}
}

// St3: a batch that was refused turns nothing, whatever was refused and however
// often, and the next ones are done as if it had not been.
func TestRefusedTurnsNothing(t *testing.T) {
	with, without := newLife(t, 12), newLife(t, 12)
	n := numbers(52)
	for i := range 12 {
		for range 6 {
			batch := append(n.batch(with.pairs), take("never"))
			if errno := with.apply(batch); errno == api.OK {
				t.Fatalf("%v was done", batch)
			}
			with.apply(n.wrong(n.batch(with.pairs)))
			with.apply([]api.Act{set("big", some(4000, 1))})
		}
		good := []api.Act{set(string(rune('a'+i)), some(i, i)), set("same", some(i, 2))}
		if with.apply(good) != api.OK || without.apply(good) != api.OK {
			t.Fatalf("batch %d was refused", i)
		}
		if !bytes.Equal(with.disk.Dump(), without.disk.Dump()) {
			t.Fatalf("batch %d lies otherwise behind those that were refused", i)
		}
	}
	if with.apply(nil) != api.ErrFull {
		t.Fatal("the disk is not full")
	}
}

// St3: what is done is safe at once: nothing is pending that a crash could take.
func TestDoneIsSafe(t *testing.T) {
	l := newLife(t, 300)
	for _, batch := range [][]api.Act{nil, {set("a", "1")}, {set("b", some(300, 1)), take("a")}, sized(t, 5000, 1), {take("b")}} {
		if l.apply(batch) != api.OK || l.disk.Pending() != 0 {
			t.Fatalf("%d writes are pending", l.disk.Pending())
		}
		for _, cut := range []api.Cut{nil, {}, {true}, {false, true}, make(api.Cut, 300)} {
			l.crash(cut)
		}
	}
}

// St3: a batch that was lost does not come back, though its sectors are still
// there behind others.
func TestLostDoesNotComeBack(t *testing.T) {
	d := newDisk(t, 6)
	apply(t, open(t, d), set("a", "1"))
	j, _ := journal.Open(d)
	j.Put(slowEncode([]api.Act{set("b", "2")}))
	j.Put(slowEncode([]api.Act{take("b")}))
	d.Crash(api.Cut{false, true})
	s := open(t, d)
	tells(t, s, []pair{{"a", "1"}}, 1)
	apply(t, s, set("c", "3"))
	tells(t, open(t, d), []pair{{"a", "1"}, {"c", "3"}}, 2)
}

// St1, St2, St3: any bytes, taken as what is done.
func FuzzLife(f *testing.F) {
	f.Add([]byte{8, 1, 2, 3, 250, 4, 240, 5})
	f.Add([]byte{20, 200, 1, 230, 9, 9, 251, 7, 220, 100, 101, 102})
	f.Fuzz(func(t *testing.T, script []byte) {
		if len(script) == 0 || len(script) > 40 {
			return
		}
		l := newLife(t, 1+int(script[0])%24)
		for i, v := range script[1:] {
			n := numbers(int(v) + 256*i)
			switch batch := n.batch(l.pairs); {
			case v < 170:
				l.apply(batch)
			case v < 185:
				l.apply(n.wrong(batch))
			case v < 200:
				l.open()
			case v < 225:
				l.torn(batch, n.cut(needs(batch)+1))
			default:
				l.crash(n.cut(3))
			}
		}
	})
}
