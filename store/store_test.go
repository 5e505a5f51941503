package store_test

import (
	"bytes"
	"slices"
	"strings"
	"testing"

	"mooring/api"
	"mooring/disk"
	"mooring/journal"
	"mooring/store"
)

// The chapter's example: set a, take a away: one batch, no key more.
func TestExample(t *testing.T) {
	s, d := newStore(t, 2)
	apply(t, s, set("a", "1"), take("a"))
	tells(t, s, nil, 1)
	tells(t, open(t, d), nil, 1)
	keeps(t, d, []api.Act{set("a", "1"), take("a")})
}

// St2: a disk on which nothing was written is a store without keys, and stays as
// it was.
func TestOpenOfAnEmptyDisk(t *testing.T) {
	for _, sectors := range []int{1, 2, 255, 4096} {
		s, d := newStore(t, sectors)
		tells(t, s, nil, 0)
		if d.Pending() != 0 || !bytes.Equal(d.Dump(), make([]byte, 64*sectors)) {
			t.Errorf("of %d: Open turned the disk", sectors)
		}
	}
}

// St2, R1: a disk that New did not make is none.
func TestOpenOfNoDisk(t *testing.T) {
	for what, d := range map[string]*disk.Disk{"nil": nil, "zero": {}, "new": new(disk.Disk)} {
		if s, errno := store.Open(d); s != nil || errno != api.ErrArg {
			t.Errorf("%s: %v, error %d", what, s, errno)
		}
	}
}

// R1, and the chapter's last words: a Store that Open did not give tells ErrArg,
// false, 0 and nothing, and stays so.
func TestNoStore(t *testing.T) {
	for what, s := range map[string]*store.Store{"nil": nil, "zero": {}, "new": new(store.Store)} {
		for range 2 {
			for _, l := range [][]api.Act{nil, {}, {set("a", "1")}, {take("a")}, {take("")}, many(256), many(257), sized(t, longest+1, 1)} {
				if errno := s.Apply(l); errno != api.ErrArg {
					t.Errorf("%s: Apply of %d acts: error %d", what, len(l), errno)
				}
			}
			if s.Len() != 0 || s.Batches() != 0 {
				t.Errorf("%s: %d keys, %d batches", what, s.Len(), s.Batches())
			}
			for _, key := range []string{"", "a", strings.Repeat("k", 65)} {
				if b, ok := s.Get(key); ok || len(b) != 0 {
					t.Errorf("%s: Get(%q): %X and %v", what, key, b, ok)
				}
				for k, v := range s.All(key) {
					t.Errorf("%s: All(%q) tells %q, %X", what, key, k, v)
				}
			}
		}
	}
}

// St2: keys are set, set anew, and taken away; each batch is told at once, and
// behind a new opening.
func TestApply(t *testing.T) {
	steps := []struct {
		l    []api.Act
		want []pair
	}{
		{nil, nil},
		{[]api.Act{set("b", "1")}, []pair{{"b", "1"}}},
		{[]api.Act{set("a", ""), set("c", "3")}, []pair{{"a", ""}, {"b", "1"}, {"c", "3"}}},
		{[]api.Act{set("b", "22")}, []pair{{"a", ""}, {"b", "22"}, {"c", "3"}}},
		{[]api.Act{set("b", "")}, []pair{{"a", ""}, {"b", ""}, {"c", "3"}}},
		{[]api.Act{take("b")}, []pair{{"a", ""}, {"c", "3"}}},
		{[]api.Act{}, []pair{{"a", ""}, {"c", "3"}}},
		{[]api.Act{take("a"), take("c")}, nil},
		{[]api.Act{set("c", "4"), set("c", "5")}, []pair{{"c", "5"}}},
		{[]api.Act{take("c"), set("c", "6")}, []pair{{"c", "6"}}},
	}
	s, d := newStore(t, 40)
	var done [][]api.Act
	for _, step := range steps {
		apply(t, s, step.l...)
		done = append(done, step.l)
		tells(t, s, step.want, len(done))
		keeps(t, d, done...)
		tells(t, open(t, d), step.want, len(done))
	}
}

// St2: acts of one batch on one key, one behind the other, as many as one likes.
func TestActsInOrder(t *testing.T) {
	cases := []struct {
		l    []api.Act
		want []pair
	}{
		{[]api.Act{set("k", "1"), take("k"), set("k", "2")}, []pair{{"k", "2"}, {"o", "0"}}},
		{[]api.Act{set("k", "1"), take("k"), set("k", "2"), take("k")}, []pair{{"o", "0"}}},
		{[]api.Act{take("o"), set("o", "1"), take("o"), set("k", "2")}, []pair{{"k", "2"}}},
		{[]api.Act{take("o"), set("o", "1")}, []pair{{"o", "1"}}},
		{[]api.Act{set("k", "1"), set("k", "2"), take("k"), take("o")}, nil},
		{[]api.Act{set("o", "3"), set("o", "")}, []pair{{"o", ""}}},
	}
	for _, c := range cases {
		s, d := newStore(t, 9)
		apply(t, s, set("o", "0"))
		apply(t, s, c.l...)
		tells(t, s, c.want, 2)
		tells(t, open(t, d), c.want, 2)
	}
}

// refused looks whether a batch is refused, and turns nothing.
func refused(t *testing.T, s *store.Store, d *disk.Disk, l []api.Act, errno api.Errno) {
	t.Helper()
	was, keys, batches := d.Dump(), collect(s, ""), s.Batches()
	if got := s.Apply(l); got != errno {
		t.Errorf("Apply of %d acts: error %d, and not %d", len(l), got, errno)
	}
	tells(t, s, keys, batches)
	if d.Pending() != 0 || !bytes.Equal(d.Dump(), was) {
		t.Error("what was refused turned the disk")
	}
	tells(t, open(t, d), keys, batches)
}

// St2, R2: an act that takes a key away that is not there, ahead of others,
// behind them, and behind acts that set and take it: none of them is done.
func TestApplyOfNone(t *testing.T) {
	for _, l := range [][]api.Act{
		{take("x")},
		{take("x"), set("x", "1")},
		{set("b", "2"), take("x")},
		{set("b", "2"), set("a", "9"), take("x"), set("c", "3")},
		{take("a"), take("a")},
		{take("a"), set("b", "1"), take("a")},
		{set("x", "1"), take("x"), take("x")},
		{set("x", "1"), take("x"), set("y", "1"), take("y"), take("x")},
		{take("a"), set("a", "5"), take("a"), take("a")},
		{take("A")}, {take("a\x00")}, {take("gone")}, {take("aa")},
		append(many(255), take("x")),
	} {
		s, d := newStore(t, 99)
		apply(t, s, set("a", "1"), set("gone", "1"))
		apply(t, s, take("gone"))
		refused(t, s, d, l, api.ErrNone)
	}
}

// St2, R2: what Encode refuses is refused, and that ahead of what is not there,
// and that ahead of what there is no room for.
func TestApplyIsRefused(t *testing.T) {
	long := sized(t, longest+1, 1)
	cases := []struct {
		l    []api.Act
		want api.Errno
	}{
		{[]api.Act{take("")}, api.ErrArg},
		{[]api.Act{set("", "1")}, api.ErrArg},
		{[]api.Act{set(some(65, 1), "1")}, api.ErrArg},
		{[]api.Act{set("b", some(4097, 1))}, api.ErrArg},
		{[]api.Act{{Key: "a", Data: []byte{1}}}, api.ErrArg},
		{[]api.Act{set("b", "1"), {Key: "b", Data: []byte{0}}}, api.ErrArg},
		{[]api.Act{take("x"), set("", "1")}, api.ErrArg},
		{many(257), api.ErrArg},
		{append([]api.Act{take("x")}, many(256)...), api.ErrArg},
		{append(slices.Clone(long), take("")), api.ErrArg},
		{long, api.ErrLong},
		{append([]api.Act{take("x")}, long...), api.ErrLong},
		{[]api.Act{take("x"), set("b", some(300, 1))}, api.ErrNone},
		{[]api.Act{set("b", some(4096, 1)), take("x")}, api.ErrNone},
		{[]api.Act{set("b", some(300, 1))}, api.ErrFull},
		{[]api.Act{take("a"), set("a", some(300, 1))}, api.ErrFull},
		{sized(t, longest, 1), api.ErrFull},
	}
	for _, c := range cases {
		s, d := newStore(t, 3)
		apply(t, s, set("a", "1"))
		refused(t, s, d, c.l, c.want)
		apply(t, s, take("a"), set("z", "26"))
		tells(t, s, []pair{{"z", "26"}}, 2)
	}
}

// St2: the longest batch is done, and one byte more is not, on a disk with room.
func TestLongestBatch(t *testing.T) {
	s, d := newStore(t, 600)
	l := sized(t, longest, 4)
	refused(t, s, d, sized(t, longest+1, 4), api.ErrLong)
	apply(t, s, l...)
	tells(t, s, leave(t, l), 1)
	keeps(t, d, l)
	tells(t, open(t, d), leave(t, l), 1)
	apply(t, s, many(256)...)
	tells(t, open(t, d), leave(t, l, many(256)), 2)
}

// St2: a disk that is just full, and one sector short, of each length.
func TestJustFull(t *testing.T) {
	for _, size := range []int{6, 50, 51, 52, 101, 102, 103, 153, 154, 600, longest - 51, longest - 50, longest} {
		l := sized(t, size, size)
		parts := (size + 50) / 51
		for _, ahead := range [][][]api.Act{nil, {{set("y", "1")}}, {nil, {set("y", some(60, 1))}}} {
			used := 0
			for _, l := range ahead {
				used += needs(l)
			}
			s, d := newStore(t, used+parts)
			for _, l := range ahead {
				apply(t, s, l...)
			}
			apply(t, s, l...)
			all := append(slices.Clone(ahead), l)
			tells(t, s, leave(t, all...), len(all))
			keeps(t, d, all...)
			refused(t, s, d, nil, api.ErrFull)
			refused(t, s, d, []api.Act{take("a")}, api.ErrFull)
			refused(t, s, d, []api.Act{take("x")}, api.ErrNone)
			if used+parts > 1 {
				short, d := newStore(t, used+parts-1)
				for _, l := range ahead {
					apply(t, short, l...)
				}
				refused(t, short, d, l, api.ErrFull)
			}
		}
	}
}

// St2: a disk of 4096 sectors that is filled by batches of one sector each.
func TestManyOnADisk(t *testing.T) {
	s, d := newStore(t, 4096)
	for i := range 4096 {
		apply(t, s, set(string([]byte{byte(i % 100), byte(i % 3)}), some(i%40, i)))
	}
	if errno := s.Apply(nil); errno != api.ErrFull || s.Batches() != 4096 || s.Len() != 300 {
		t.Fatalf("error %d, %d batches, %d keys", errno, s.Batches(), s.Len())
	}
	tells(t, open(t, d), collect(s, ""), 4096)
	if b, ok := s.Get("\x5F\x00"); !ok || string(b) != some(4095%40, 4095) {
		t.Errorf("the last value is %q and %v", b, ok)
	}
}

// St2: records that are no batch, or take away what is not there, at each place
// among others.
func TestOpenOfNoBatches(t *testing.T) {
	wrongs := map[string][]byte{
		"nothing":           {},
		"cut":               {1, 1, 'a', 1, 2, 'x'},
		"more":              {0, 0},
		"count too long":    {0x80, 0},
		"count wrong":       {2, 1, 'a', 1, 0},
		"mark 2":            {1, 1, 'a', 2},
		"no key":            {1, 0, 1, 0},
		"65 bytes":          slowEncode([]api.Act{set(some(65, 1), "")}),
		"4097 bytes":        slowEncode([]api.Act{set("a", some(4097, 1))}),
		"257 acts":          slowEncode(many(257)),
		"not there":         slowEncode([]api.Act{take("x")}),
		"not there, behind": slowEncode([]api.Act{set("y", "1"), take("x"), set("x", "1")}),
		"taken twice":       slowEncode([]api.Act{set("y", "1"), take("y"), take("y")}),
		"taken ahead":       slowEncode([]api.Act{take("gone")}),
	}
	right := [][]byte{
		slowEncode([]api.Act{set("b", "1"), set("gone", "")}), slowEncode([]api.Act{take("gone")}), slowEncode(nil),
	}
	for what, b := range wrongs {
		for _, at := range []int{0, 2, 3} {
			d := newDisk(t, 200)
			put(t, d, slices.Insert(slices.Clone(right), at, b)...)
			refusesDisk(t, what, d, api.ErrText)
		}
	}
	d := newDisk(t, 9)
	put(t, d, right...)
	tells(t, open(t, d), []pair{{"b", "1"}}, 3)
	for _, b := range [][]byte{slowEncode([]api.Act{take("b")}), slowEncode([]api.Act{set("x", "1"), take("x")})} {
		put(t, d, b)
	}
	s := open(t, d)
	tells(t, s, nil, 5)
	apply(t, s, set("b", "2"))
	tells(t, open(t, d), []pair{{"b", "2"}}, 6)
}

// St2: a record that is none of the journal is none of the store: it may be
// anything.
func TestOpenReadsRecordsAlone(t *testing.T) {
	d := newDisk(t, 4)
	put(t, d, slowEncode([]api.Act{set("b", "1")}))
	d.Write(1, sector(0, 2, []byte{9, 9})) // of an elder generation
	d.Write(3, sector(1, 3, []byte{9, 9})) // not behind the last one
	d.Flush()
	tells(t, open(t, d), []pair{{"b", "1"}}, 1)
	d.Rot(20, 1)
	tells(t, open(t, d), nil, 0)
}

// St2: what layer 8's Open refuses, and that ahead of what is no batch.
func TestOpenOfAFullGeneration(t *testing.T) {
	for what, b := range map[string][]byte{"a batch": {0}, "no batch": {9}} {
		d := newDisk(t, 2)
		d.Write(0, sector(65535, 1, b))
		d.Flush()
		refusesDisk(t, what, d, api.ErrFull)
	}
	d := newDisk(t, 2)
	d.Write(0, sector(65534, 1, []byte{1, 1, 'a', 1, 0}))
	d.Flush()
	s := open(t, d)
	tells(t, s, []pair{{"a", ""}}, 1)
	apply(t, s, take("a"))
	refusesDisk(t, "the last one", d, api.ErrFull)
}

// St2: Open reads what the disk tells, what is pending, too; a batch behind it
// is safe with it.
func TestOpenReadsWhatIsPending(t *testing.T) {
	d := newDisk(t, 4)
	j, _ := journal.Open(d)
	j.Put(slowEncode([]api.Act{set("a", "1")}))
	s := open(t, d)
	tells(t, s, []pair{{"a", "1"}}, 1)
	if d.Pending() != 1 {
		t.Errorf("%d writes are pending", d.Pending())
	}
	apply(t, s, set("b", "2"))
	keeps(t, d, []api.Act{set("a", "1")}, []api.Act{set("b", "2")})
}

// St2: Get tells a value of any length, and nothing of keys that are nearly there.
func TestGet(t *testing.T) {
	s, _ := newStore(t, 200)
	long := strings.Repeat("k", 64)
	apply(t, s, set("ab", "1"), set(long, some(4096, 1)), set("e", ""), set("\xC3\xA4", "2"))
	for key, want := range map[string]string{"ab": "1", long: some(4096, 1), "e": "", "ä": "2"} {
		if b, ok := s.Get(key); !ok || string(b) != want {
			t.Errorf("Get(%q): %q and %v", key, b, ok)
		}
	}
	for _, key := range []string{"", "a", "abc", "AB", "b", "ab\x00", long[1:], long + "k", "\xC3", "Ä", some(5000, 1)} {
		if b, ok := s.Get(key); ok || len(b) != 0 {
			t.Errorf("Get(%q): %q and %v", key, b, ok)
		}
	}
}

// St2, R4: a store is told alike however often it is opened, and by whom.
func TestOpenIsAlwaysTheSame(t *testing.T) {
	s, d := newStore(t, 60)
	for i := range 50 {
		apply(t, s, set(some(1+i%3, i), some(i%9, i)))
	}
	want := collect(s, "")
	for range 20 {
		if got := collect(open(t, d), ""); !slices.Equal(got, want) {
			t.Fatalf("%q, and not %q", got, want)
		}
	}
}

func BenchmarkApply(b *testing.B) {
	d, _ := disk.New(4096)
	s, _ := store.Open(d)
	l := many(8)
	for b.Loop() {
		if s.Apply(l) == api.ErrFull {
			d, _ = disk.New(4096)
			s, _ = store.Open(d)
		}
	}
}

func BenchmarkOpen(b *testing.B) {
	d, _ := disk.New(4096)
	s, _ := store.Open(d)
	for s.Apply(many(64)) == api.OK {
	}
	for b.Loop() {
		store.Open(d)
	}
}
