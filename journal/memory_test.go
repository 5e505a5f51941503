package journal_test

import (
	"bytes"
	"testing"

	"mooring/api"
	"mooring/journal"
)

// scribble writes over bytes and over all the room behind their end.
func scribble(b []byte) {
	b = b[:cap(b)]
	for i := range b {
		b[i] ^= 0xFF
	}
}

// R3: what is put is not changed and not kept, nor is the room behind it, which
// says nothing.
func TestPutBytesAreNotKept(t *testing.T) {
	for _, n := range []int{0, 1, 50, 51, 52, 102, 120} {
		d := newDisk(t, 6)
		j := open(t, d)
		want := some(n, 1)
		room := joined([]byte{9}, want, some(70, 2))
		was := bytes.Clone(room)
		put(t, j, room[1:1+n])
		if !bytes.Equal(room, was) {
			t.Fatalf("Put of %d bytes changed what was handed in", n)
		}
		scribble(room)
		left := slowRoom(6 - needs(want))
		tells(t, j, [][]byte{want}, 1, left)
		was = bytes.Clone(room)
		j.Sync()
		put(t, j, some(5, 3))
		if !bytes.Equal(room, was) {
			t.Fatalf("%d bytes that were handed in turned later", n)
		}
		d.Crash(nil)
		tells(t, open(t, d), [][]byte{want}, 2, left)
	}
}

// R3: one list may be put often, and turned between.
func TestOneListIsPutOften(t *testing.T) {
	d := newDisk(t, 8)
	j := open(t, d)
	b := make([]byte, 60)
	var want [][]byte
	for i := range 4 {
		copy(b, some(60, i))
		put(t, j, b)
		want = append(want, some(60, i))
	}
	clear(b)
	tells(t, j, want, 1, -1)
	tells(t, open(t, d), want, 2, -1)
}

// R3: what Get tells is new memory, of what was put and of what was read.
func TestGetIsNewMemory(t *testing.T) {
	d := newDisk(t, 6)
	j := open(t, d)
	want := [][]byte{some(60, 1), some(51, 2), nil, some(1, 3)}
	for _, b := range want {
		put(t, j, b)
	}
	for gen, j := range map[int]*journal.Journal{1: j, 2: open(t, d)} {
		for i, b := range want {
			first, _ := j.Get(i)
			second, _ := j.Get(i)
			scribble(first)
			if !bytes.Equal(second, b) {
				t.Fatalf("record %d: two answers share memory", i)
			}
			scribble(second)
			_ = append(second, 1, 2, 3)
			tells(t, j, want, gen, 51)
			third, _ := j.Get(i)
			put(t, open(t, diskOf(t, read(t, d))), some(9, 9))
			if !bytes.Equal(third, b) {
				t.Fatalf("record %d: an answer turned later", i)
			}
		}
	}
	tells(t, open(t, d), want, 2, 51)
}

// R3: what Parse is given is not changed and not kept; what it tells is new
// memory, each record for itself, its room, too.
func TestParseIsNewMemory(t *testing.T) {
	want := [][]byte{some(60, 1), some(51, 2), nil, some(1, 3), some(153, 4)}
	var dump []byte
	for i, b := range want {
		dump = append(dump, laid(1, i+1, b)...)
	}
	room := joined([]byte{1}, dump, laid(1, 6, some(9, 9)))
	was := bytes.Clone(room)
	given := room[1 : 1+len(dump)]
	first, _ := journal.Parse(given)
	second, errno := journal.Parse(given)
	if !bytes.Equal(room, was) {
		t.Fatal("Parse changed what was handed in")
	}
	scribble(room)
	if errno != api.OK || !same(first, want) || !same(second, want) {
		t.Fatal("what Parse told turned with what was handed in")
	}
	for i := range first {
		scribble(first[i])
		for k := i + 1; k < len(first); k++ {
			if !bytes.Equal(first[k], want[k]) {
				t.Fatalf("the records %d and %d share memory", i, k)
			}
		}
	}
	if !same(second, want) {
		t.Fatal("two answers share memory")
	}
	for i := range second {
		_ = append(second[i], 1, 2, 3)
	}
	if !same(second, want) {
		t.Fatal("a record's room is another one")
	}
	scribble(room)
	if !bytes.Equal(room, was) {
		t.Fatal("what was handed in turned with an answer")
	}
}

// R3: the list that Parse tells may be written over; a journal that was opened
// keeps its own records, whatever comes to the disk later.
func TestJournalKeepsItsRecords(t *testing.T) {
	d := newDisk(t, 4)
	j := open(t, d)
	put(t, j, some(60, 1))
	j.Sync()
	j = open(t, d)
	for at := range 4 * 64 {
		d.Rot(at, 0xFF)
	}
	tells(t, j, [][]byte{some(60, 1)}, 2, 2*51)
	tells(t, open(t, d), nil, 1, 4*51)
}

// R3: a journal keeps its disk: what it puts is there, and what its Sync lets be
// safe.
func TestJournalKeepsItsDisk(t *testing.T) {
	one, two := newDisk(t, 3), newDisk(t, 3)
	a, b := open(t, one), open(t, two)
	put(t, a, some(5, 1))
	put(t, b, some(60, 2))
	a.Sync()
	if one.Pending() != 0 || two.Pending() != 2 {
		t.Fatalf("%d and %d are pending", one.Pending(), two.Pending())
	}
	tells(t, a, [][]byte{some(5, 1)}, 1, 2*51)
	tells(t, b, [][]byte{some(60, 2)}, 1, 51)
	parses(t, one.Dump(), [][]byte{some(5, 1)})
	parses(t, two.Dump(), nil)
}

// R4: two disks with which the same was done tell the same.
func TestSameDeedsTellTheSame(t *testing.T) {
	n, m := numbers(31), numbers(31)
	one, two := newLife(t, 9), newLife(t, 9)
	step := func(n *numbers, l *life) {
		switch n.below(6) {
		case 0:
			l.sync()
		case 1:
			l.crash(n.cut(l.disk.Pending()))
		default:
			l.put(n.record())
		}
	}
	for range 200 {
		step(&n, one)
		step(&m, two)
		if !bytes.Equal(one.disk.Dump(), two.disk.Dump()) || one.journal.Gen() != two.journal.Gen() || !same(one.records, two.records) {
			t.Fatal("two journals tell other things")
		}
	}
}
