package journal_test

import (
	"bytes"
	"math"
	"testing"

	"mooring/api"
	"mooring/disk"
	"mooring/journal"
)

// lengths are those that the chapter has edges at, but for the greatest.
var lengths = []int{0, 1, 50, 51, 52, 101, 102, 103, 153}

// longest is how many bytes a record may have.
const longest = 255 * 51

// The chapter's example: Put of 60 bytes: two sectors, 51 and 9 bytes; if the
// second one is not safe the record is none.
func TestExample(t *testing.T) {
	d := newDisk(t, 3)
	put(t, open(t, d), some(60, 1))
	if d.Pending() != 2 {
		t.Fatalf("%d sectors", d.Pending())
	}
	b := read(t, d)
	if b[8] != 51 || b[64+8] != 128+9 {
		t.Errorf("the parts have %d and %d bytes", b[8], b[64+8])
	}
	d.Crash(api.Cut{true, false})
	tells(t, open(t, d), nil, 2, 3*51)
	parses(t, d.Dump(), nil)
}

// Jo1: a disk on which nothing was written: no records, generation 1, room on
// all of it, but for no more than a record may have.
func TestOpenOfAnEmptyDisk(t *testing.T) {
	for _, sectors := range []int{1, 2, 8, 254, 255, 256, 4095, 4096} {
		d := newDisk(t, sectors)
		tells(t, open(t, d), nil, 1, min(sectors, 255)*51)
		if d.Pending() != 0 || !bytes.Equal(d.Dump(), blank(sectors)) {
			t.Errorf("of %d: Open turned the disk", sectors)
		}
	}
}

// Jo1, R1: a disk that New did not make is none.
func TestOpenOfNoDisk(t *testing.T) {
	for what, d := range map[string]*disk.Disk{"nil": nil, "zero": {}, "new": new(disk.Disk)} {
		if j, errno := journal.Open(d); j != nil || errno != api.ErrArg {
			t.Errorf("%s: %v, error %d", what, j, errno)
		}
	}
}

// Jo1, R1, and the chapter's last words: a Journal that Open did not give tells
// ErrArg, 0, -1 and false, and stays so.
func TestNoJournal(t *testing.T) {
	for what, j := range map[string]*journal.Journal{"nil": nil, "zero": {}, "new": new(journal.Journal)} {
		for range 2 {
			for _, b := range [][]byte{nil, {}, {1}, some(60, 1), some(longest, 1), some(longest+1, 1)} {
				if errno := j.Put(b); errno != api.ErrArg {
					t.Errorf("%s: Put of %d bytes: error %d", what, len(b), errno)
				}
			}
			j.Sync()
			if j.Len() != 0 || j.Room() != -1 || j.Gen() != 0 {
				t.Errorf("%s: Len %d, Room %d, Gen %d", what, j.Len(), j.Room(), j.Gen())
			}
			for _, i := range []int{math.MinInt, -1, 0, 1, math.MaxInt} {
				if b, ok := j.Get(i); ok || len(b) != 0 {
					t.Errorf("%s: Get(%d): %X and %v", what, i, b, ok)
				}
			}
		}
	}
}

// Jo1, Jo2: one record of each length: it stands in the sectors that the chapter
// says, and in no others, and is told at once, and behind a new opening.
func TestPutOfEachLength(t *testing.T) {
	for _, n := range append(lengths, longest-52, longest-51, longest-50, longest-1, longest) {
		for _, spare := range []int{0, 1, 3} {
			b := some(n, 5)
			sectors := needs(b) + spare
			d := newDisk(t, sectors)
			j := open(t, d)
			put(t, j, b)
			tells(t, j, [][]byte{b}, 1, slowRoom(spare))
			want := joined(laid(1, 1, b), blank(spare))
			if !bytes.Equal(read(t, d), want) || d.Pending() != needs(b) {
				t.Fatalf("%d bytes: %d writes, or other bytes", n, d.Pending())
			}
			if !bytes.Equal(d.Dump(), blank(sectors)) {
				t.Fatalf("%d bytes: Put let something be safe", n)
			}
			j.Sync()
			if d.Pending() != 0 || !bytes.Equal(d.Dump(), want) {
				t.Fatalf("%d bytes: Sync did not let all be safe", n)
			}
			tells(t, open(t, d), [][]byte{b}, 2, slowRoom(spare))
			parses(t, d.Dump(), [][]byte{b})
		}
	}
}

// Jo1: Open reads what d's Read tells, what is pending, too; and its generation
// is one more than that.
func TestOpenReadsWhatIsPending(t *testing.T) {
	d := newDisk(t, 6)
	put(t, open(t, d), some(60, 1))
	j := open(t, d)
	tells(t, j, [][]byte{some(60, 1)}, 2, 4*51)
	put(t, j, some(3, 2))
	tells(t, open(t, d), [][]byte{some(60, 1), some(3, 2)}, 3, 3*51)
	want := joined(laid(1, 1, some(60, 1)), laid(2, 2, some(3, 2)), blank(3))
	if !bytes.Equal(read(t, d), want) {
		t.Errorf("%X, and not %X", read(t, d), want)
	}
	parses(t, d.Dump(), nil)
	j.Sync()
	parses(t, d.Dump(), [][]byte{some(60, 1), some(3, 2)})
}

// Jo2: a record is written part by part: the writes are in the parts' order, and
// each is one of a sector.
func TestPartsAreWrittenInOrder(t *testing.T) {
	b := some(4*51+2, 3)
	whole := laid(1, 1, b)
	for kept := range needs(b) {
		d := newDisk(t, 6)
		put(t, open(t, d), b)
		cut := make(api.Cut, 5)
		cut[kept] = true
		d.Crash(cut)
		want := blank(6)
		copy(want[64*kept:64*kept+64], whole[64*kept:])
		if !bytes.Equal(d.Dump(), want) {
			t.Fatalf("write %d is not that of part %d", kept, kept)
		}
	}
}

// Jo2, R2: too many bytes, or too few sectors: it is refused, and nothing has
// changed; ErrLong is ahead of ErrFull.
func TestPutIsRefused(t *testing.T) {
	cases := []struct {
		sectors, ahead, length int
		want                   api.Errno
	}{
		{1, -1, 51, api.OK}, {1, -1, 52, api.ErrFull}, {1, 0, 0, api.ErrFull}, {1, 51, 0, api.ErrFull},
		{2, -1, 102, api.OK}, {2, -1, 103, api.ErrFull}, {2, 51, 51, api.OK}, {2, 51, 52, api.ErrFull},
		{2, 52, 0, api.ErrFull}, {2, 102, 0, api.ErrFull}, {2, 102, longest + 1, api.ErrLong},
		{1, -1, longest, api.ErrFull}, {1, -1, longest + 1, api.ErrLong}, {4096, -1, longest + 1, api.ErrLong},
		{254, -1, longest - 51, api.OK}, {254, -1, longest - 50, api.ErrFull}, {254, -1, longest, api.ErrFull},
		{255, -1, longest, api.OK}, {255, 0, longest, api.ErrFull}, {255, 0, longest - 51, api.OK},
		{256, -1, longest, api.OK}, {256, -1, longest + 1, api.ErrLong}, {4096, -1, 1 << 20, api.ErrLong},
	}
	for _, c := range cases {
		d := newDisk(t, c.sectors)
		j := open(t, d)
		var want [][]byte
		left := c.sectors
		if c.ahead >= 0 {
			put(t, j, some(c.ahead, 1))
			want = append(want, some(c.ahead, 1))
			left -= needs(want[0])
		}
		was, pending, b := read(t, d), d.Pending(), some(c.length, 2)
		if errno := j.Put(b); errno != c.want {
			t.Errorf("%+v: error %d", c, errno)
		}
		if c.want == api.OK {
			tells(t, j, append(want, b), 1, slowRoom(left-needs(b)))
			continue
		}
		tells(t, j, want, 1, slowRoom(left))
		if d.Pending() != pending || !bytes.Equal(read(t, d), was) {
			t.Errorf("%+v: what was refused turned the disk", c)
		}
	}
}

// Jo1, Jo2: Room is how many bytes Put takes: just so many, and not one more, on
// each disk, however full.
func TestRoomIsWhatPutTakes(t *testing.T) {
	for sectors := 1; sectors <= 6; sectors++ {
		for used := 0; used <= sectors; used++ {
			for _, more := range []int{0, 1} {
				d := newDisk(t, sectors)
				j := open(t, d)
				for i := range used {
					put(t, j, some(i%52, i))
				}
				room := j.Room()
				if want := slowRoom(sectors - used); room != want {
					t.Fatalf("of %d, %d used: Room %d, and not %d", sectors, used, room, want)
				}
				errno := j.Put(some(max(room+more, 0), 1))
				if taken := errno == api.OK; taken != (more == 0 && room >= 0) {
					t.Fatalf("of %d, %d used: Put of %d bytes, with room for %d: error %d", sectors, used, room+more, room, errno)
				}
			}
		}
	}
}

// Jo1, Jo2: a disk of 4096 sectors that is filled by records of one part, and by
// the longest ones.
func TestFullDisk(t *testing.T) {
	for _, n := range []int{0, 51, longest} {
		d := newDisk(t, 4096)
		j := open(t, d)
		var want [][]byte
		left := 4096
		for j.Room() >= 0 {
			b := some(min(n, j.Room()), len(want))
			put(t, j, b)
			want = append(want, b)
			left -= needs(b)
			if j.Room() != slowRoom(left) {
				t.Fatalf("%d sectors are left: Room %d", left, j.Room())
			}
		}
		if errno := j.Put(nil); left != 0 || errno != api.ErrFull {
			t.Fatalf("%d sectors are left: error %d", left, errno)
		}
		j.Sync()
		tells(t, j, want, 1, -1)
		tells(t, open(t, d), want, 2, -1)
		parses(t, d.Dump(), want)
		var all []byte
		for i, b := range want {
			all = append(all, laid(1, i+1, b)...)
		}
		if !bytes.Equal(d.Dump(), all) {
			t.Fatal("a full disk is laid otherwise")
		}
	}
}

// Jo1: the generation rises with each opening behind which something was put,
// and with no other.
func TestGenerationRises(t *testing.T) {
	d := newDisk(t, 20)
	var want [][]byte
	for gen := 1; gen <= 9; gen++ {
		for range 3 {
			tells(t, open(t, d), want, gen, (20-2*(gen-1))*51)
		}
		j := open(t, d)
		for range 2 {
			put(t, j, some(gen, gen))
			want = append(want, some(gen, gen))
		}
		if j.Gen() != gen {
			t.Fatalf("the generation turned by a Put: %d, and not %d", j.Gen(), gen)
		}
		j.Sync()
		if b := d.Dump()[64*(2*gen-1):]; !bytes.Equal(b[:64], laid(gen, 2*gen, some(gen, gen))) {
			t.Fatalf("generation %d: sector %d is %X", gen, 2*gen-1, b[:64])
		}
	}
}

// Jo1: a generation that is found in a sector behind the records alone, or in a
// disk without any, at each place of it.
func TestGenerationIsFoundAnywhere(t *testing.T) {
	for _, gen := range []int{0, 1, 2, 3, 255, 256, 257, 65279, 65280, 65533, 65534, 65535} {
		for at := 2; at < 6; at++ {
			dump := joined(laid(1, 1, some(60, 1)), blank(4))
			copy(dump[64*at:], part(gen, 7, 3, false, some(51, 2)).sector())
			if gen == 65535 {
				refuses(t, diskOf(t, dump), api.ErrFull)
				parses(t, dump, [][]byte{some(60, 1)})
				continue
			}
			tells(t, open(t, diskOf(t, dump)), [][]byte{some(60, 1)}, max(gen, 1)+1, 4*51)
			copy(dump, blank(1))
			tells(t, open(t, diskOf(t, dump)), nil, max(gen, 1)+1, 6*51)
			copy(dump[64:], blank(1))
			tells(t, open(t, diskOf(t, dump)), nil, gen+1, 6*51)
		}
	}
}

// Jo1: the greatest generation is that of all parts, wherever it stands.
func TestGenerationIsTheGreatest(t *testing.T) {
	n := numbers(3)
	for range 200 {
		var dump []byte
		greatest := 0
		for range 1 + n.below(8) {
			gen := n.below(65535)
			dump = append(dump, part(gen, 1+n.below(1<<32-1), n.below(254), n.below(2) == 0, some(51, n.below(100))).sector()...)
			greatest = max(greatest, gen)
		}
		if got := open(t, diskOf(t, dump)).Gen(); got != greatest+1 {
			t.Fatalf("generation %d, and not %d", got, greatest+1)
		}
	}
}

// Jo1, Jo2: the generations 65534 and 65535 are written and read like others;
// there is none behind them.
func TestLastGeneration(t *testing.T) {
	d := diskOf(t, joined(laid(65533, 1, some(52, 1)), blank(6)))
	j := open(t, d)
	tells(t, j, [][]byte{some(52, 1)}, 65534, 6*51)
	put(t, j, some(1, 2))
	j.Sync()
	j = open(t, d)
	tells(t, j, [][]byte{some(52, 1), some(1, 2)}, 65535, 5*51)
	put(t, j, some(102, 3))
	j.Sync()
	want := joined(laid(65533, 1, some(52, 1)), laid(65534, 2, some(1, 2)), laid(65535, 3, some(102, 3)), blank(3))
	if !bytes.Equal(d.Dump(), want) {
		t.Fatalf("%X, and not %X", d.Dump(), want)
	}
	refuses(t, d, api.ErrFull)
	parses(t, d.Dump(), [][]byte{some(52, 1), some(1, 2), some(102, 3)})
	put(t, j, nil)
	tells(t, j, [][]byte{some(52, 1), some(1, 2), some(102, 3), nil}, 65535, 2*51)
}

// Jo1: a sector that is a part of no record has no generation, whatever its
// bytes say.
func TestGenerationOfNoPart(t *testing.T) {
	good := part(700, 1, 0, false, some(51, 1)).sector()
	for at := range good {
		dump := joined(blank(1), good)
		dump[64+at] ^= 0x10
		tells(t, open(t, diskOf(t, dump)), nil, 1, 2*51)
	}
	for what, s := range noParts() {
		if gen := open(t, diskOf(t, s)).Gen(); gen != 1 {
			t.Errorf("%s: generation %d", what, gen)
		}
	}
}

// noParts is sectors of the generation 700 that are right but for one thing.
func noParts() map[string][]byte {
	turned := func(f form, at int, v byte) []byte {
		b := f.sector()
		b[at] = v
		return summed(b)
	}
	return map[string][]byte{
		"another mark":             form{'K', 700, 1, 0, 128 + 3, some(3, 1)}.sector(),
		"no mark":                  form{0, 700, 1, 0, 128 + 3, some(3, 1)}.sector(),
		"52 bytes":                 form{'J', 700, 1, 0, 52, some(51, 1)}.sector(),
		"52 bytes of the last":     form{'J', 700, 1, 0, 128 + 52, some(51, 1)}.sector(),
		"127 bytes":                form{'J', 700, 1, 0, 127, some(51, 1)}.sector(),
		"127 bytes of the last":    form{'J', 700, 1, 0, 255, some(51, 1)}.sector(),
		"50 bytes, not the last":   part(700, 1, 0, false, some(50, 1)).sector(),
		"no bytes, not the last":   part(700, 1, 0, false, nil).sector(),
		"filled otherwise":         turned(part(700, 1, 0, true, some(9, 1)), 18, 1),
		"filled otherwise, at end": turned(part(700, 1, 0, true, some(50, 1)), 59, 1),
		"empty, not first":         part(700, 1, 1, true, nil).sector(),
		"beyond the last part":     part(700, 1, 255, true, some(9, 1)).sector(),
		"last part goes on":        part(700, 1, 254, false, some(51, 1)).sector(),
	}
}

// Jo1: questions, and openings, turn nothing.
func TestQuestionsTurnNothing(t *testing.T) {
	d := newDisk(t, 5)
	j := open(t, d)
	put(t, j, some(60, 1))
	j.Sync()
	put(t, j, some(5, 2))
	was, dump := read(t, d), d.Dump()
	for range 5 {
		tells(t, j, [][]byte{some(60, 1), some(5, 2)}, 1, 2*51)
		tells(t, open(t, d), [][]byte{some(60, 1), some(5, 2)}, 2, 2*51)
		parses(t, dump, [][]byte{some(60, 1)})
	}
	if d.Pending() != 1 || !bytes.Equal(read(t, d), was) || !bytes.Equal(d.Dump(), dump) {
		t.Error("the disk is another one")
	}
}

// Jo2: Sync is the disk's Flush: with nothing put, and of what others wrote, too.
func TestSyncIsFlush(t *testing.T) {
	d := newDisk(t, 3)
	j := open(t, d)
	j.Sync()
	if d.Pending() != 0 || !bytes.Equal(d.Dump(), blank(3)) {
		t.Error("Sync of nothing turned the disk")
	}
	d.Write(2, some(64, 1))
	j.Sync()
	if want := joined(blank(2), some(64, 1)); d.Pending() != 0 || !bytes.Equal(d.Dump(), want) {
		t.Errorf("%d are pending", d.Pending())
	}
}

func BenchmarkPutAndSync(b *testing.B) {
	record := some(1000, 1)
	b.SetBytes(200 * 1000)
	for b.Loop() {
		j := open(b, newDisk(b, 4096))
		for range 200 {
			j.Put(record)
			j.Sync()
		}
	}
}

func BenchmarkOpen(b *testing.B) {
	d := newDisk(b, 4096)
	j := open(b, d)
	for j.Room() >= 0 {
		put(b, j, some(min(1000, j.Room()), 1))
	}
	j.Sync()
	b.SetBytes(4096 * 64)
	for b.Loop() {
		open(b, d)
	}
}
