package shard_test

import (
	"strings"
	"testing"

	"mooring/api"
	"mooring/shard"
)

// active is a holder whose Now is a shard, and nothing else.
func active(s api.Shard) api.Holder { return api.Holder{Fence: s.Since, Now: s} }

// writesOk is a holder behind a Write that must be done.
func writesOk(t testing.TB, h api.Holder, since int, e api.Entry, c api.Chunk) api.Holder {
	t.Helper()
	got, errno := writes(t, h, since, e, c)
	if errno != api.OK {
		t.Fatalf("Write of %+v: error %d", e, errno)
	}
	return got
}

// Sh3, by hand: what each kind of entry does to an object that is there, and to one that is
// not.
func TestWriteByHand(t *testing.T) {
	was, c := chunk(5, "was"), chunk(8, "more")
	ahead, behind := api.Item{Name: "B", Chunk: chunk(1, "B")}, api.Item{Name: "é", Chunk: chunk(2, "é")}
	there := api.Item{Name: "b", Chunk: was}
	for what, known := range map[string]struct {
		e     api.Entry
		items []api.Item
		want  []api.Item
		undo  api.Undo
	}{
		"new":              {entry(1, "b", 8), []api.Item{ahead, behind}, []api.Item{ahead, {Name: "b", Chunk: c}, behind}, api.Undo{Seq: 1, Name: "b"}},
		"the first":        {entry(1, "A", 8), []api.Item{ahead, behind}, []api.Item{{Name: "A", Chunk: c}, ahead, behind}, api.Undo{Seq: 1, Name: "A"}},
		"the last":         {entry(1, "日", 8), []api.Item{ahead, behind}, []api.Item{ahead, behind, {Name: "日", Chunk: c}}, api.Undo{Seq: 1, Name: "日"}},
		"the only one":     {entry(1, "b", 8), nil, []api.Item{{Name: "b", Chunk: c}}, api.Undo{Seq: 1, Name: "b"}},
		"turned":           {entry(1, "b", 8), []api.Item{ahead, there, behind}, []api.Item{ahead, {Name: "b", Chunk: c}, behind}, api.Undo{Seq: 1, Name: "b", Has: true, Was: was}},
		"of another Size":  {entry(1, "b", 99), []api.Item{there}, []api.Item{{Name: "b", Chunk: c}}, api.Undo{Seq: 1, Name: "b", Has: true, Was: was}},
		"gone":             {gone(1, "b"), []api.Item{ahead, there, behind}, []api.Item{ahead, behind}, api.Undo{Seq: 1, Name: "b", Has: true, Was: was}},
		"gone, and none":   {gone(1, "b"), []api.Item{ahead, behind}, []api.Item{ahead, behind}, api.Undo{Seq: 1, Name: "b"}},
		"all is gone":      {gone(1, "b"), []api.Item{there}, nil, api.Undo{Seq: 1, Name: "b", Has: true, Was: was}},
		"failed":           {failed(1, "b", api.ErrLong), []api.Item{ahead, there, behind}, []api.Item{ahead, there, behind}, api.Undo{Seq: 1, Name: "b", Has: true, Was: was}},
		"failed, and none": {failed(1, "b", 255), []api.Item{ahead, behind}, []api.Item{ahead, behind}, api.Undo{Seq: 1, Name: "b"}},
	} {
		h := active(api.Shard{Place: 6, Since: 3, Items: known.items})
		want := active(api.Shard{Place: 6, Since: 3, Items: known.want, Log: []api.Entry{known.e}, Undos: []api.Undo{known.undo}})
		got := writesOk(t, h, 3, known.e, c)
		if text(got) != text(want) {
			t.Errorf("%s: %+v, and not %+v", what, got, want)
		}
		if back, errno := backs(t, got.Now, 0); errno != api.OK || text(back) != text(h.Now) {
			t.Errorf("%s: taken back it is %+v, error %d", what, back, errno)
		}
	}
}

// Sh3: what an entry does when it comes again, with another chunk, too; another one of its
// Seq; and one that is too far ahead.
func TestWriteAgain(t *testing.T) {
	h := active(api.Shard{Since: 3})
	for seq := 1; seq <= 4; seq++ {
		h = writesOk(t, h, 3, entry(seq, "a", seq), chunk(seq, "a"))
	}
	h, _ = commits(t, h, 3, 2)
	for seq := 1; seq <= 4; seq++ {
		if got := writesOk(t, h, 3, entry(seq, "a", seq), chunk(77, "other")); text(got) != text(h) {
			t.Errorf("entry %d again: %+v, and not %+v", seq, got, h)
		}
		for what, do := range map[string]func(e *api.Entry){
			"Client": func(e *api.Entry) { e.Key.Client++ }, "Seq": func(e *api.Entry) { e.Key.Seq++ },
			"Name": func(e *api.Entry) { e.Name = "b" }, "Size": func(e *api.Entry) { e.Size++ },
			"Code": func(e *api.Entry) { e.Code, e.Size = 1, 0 }, "Gone": func(e *api.Entry) { e.Gone, e.Size = true, 0 },
		} {
			e := entry(seq, "a", seq)
			do(&e)
			if got, errno := writes(t, h, 3, e, chunk(seq, "a")); errno != api.ErrBad || text(got) != text(h) {
				t.Errorf("entry %d, another %s: error %d, %+v", seq, what, errno, got)
			}
		}
	}
	for _, seq := range []int{6, 7, 100, 4095, 4096} {
		if got, errno := writes(t, h, 3, entry(seq, "a", 1), chunk(1, "a")); errno != api.ErrWait || text(got) != text(h) {
			t.Errorf("entry %d: error %d, %+v", seq, errno, got)
		}
	}
	writesOk(t, h, 3, entry(5, "a", 1), chunk(1, "a"))
}

// Sh3: Write activates; also beside ErrBad and ErrWait, and for an entry that is there, and
// not beside ErrArg.
func TestWriteActivates(t *testing.T) {
	h := full()
	activated := api.Holder{Fence: 9, Now: h.Next[1]}
	done := activated
	done.Now = slowDone(done.Now, entry(6, "a", 9), chunk(9, "new"))
	for _, known := range []struct {
		e     api.Entry
		c     api.Chunk
		want  api.Holder
		errno api.Errno
	}{
		{entry(6, "a", 9), chunk(9, "new"), done, api.OK},
		{h.Next[1].Log[3], chunk(9, "new"), activated, api.OK},
		{entry(5, "a", 9), chunk(9, "new"), activated, api.ErrBad},
		{entry(7, "a", 9), chunk(9, "new"), activated, api.ErrWait},
		{entry(0, "a", 9), chunk(9, "new"), h, api.ErrArg},
		{entry(4097, "a", 9), chunk(9, "new"), h, api.ErrArg},
		{entry(6, "", 9), chunk(9, "new"), h, api.ErrArg},
		{entry(6, "a", 9), chunk(4097, "new"), h, api.ErrArg},
		{entry(5, "a/b", 9), chunk(9, "new"), h, api.ErrArg},
		{entry(7, "a", -1), chunk(-1, "new"), h, api.ErrArg},
		{h.Next[1].Log[3], chunk(4097, "new"), h, api.ErrArg},
	} {
		got, errno := writes(t, h, 9, known.e, known.c)
		if errno != known.errno || text(got) != text(known.want) {
			t.Errorf("%+v: error %d, want %d, %+v, and not %+v", known.e, errno, known.errno, got, known.want)
		}
	}
	for _, since := range []int{-1, 0, 3, 5, 8, 10, 1<<20 + 1} {
		if got, errno := writes(t, h, since, entry(6, "a", 9), chunk(9, "new")); errno == api.OK || text(got) != text(h) {
			t.Errorf("Write of %d: error %d, %+v", since, errno, got)
		}
	}
}

// Sh3: entries and chunks at the edges may be written, and others not, whatever they do.
func TestWhatMayBeWritten(t *testing.T) {
	good := []api.Entry{
		entry(1, "a", 0), entry(1, "a", 4096), entry(1, strings.Repeat("日", 64), 1), gone(1, "a"),
		failed(1, "a", 1), failed(1, "a", 255), {Seq: 1, Name: "a"}, {Seq: 1, Name: "a", Key: api.Key{Client: 1<<31 - 1, Seq: 1<<31 - 1}},
	}
	bad := []api.Entry{
		{}, {Name: "a"}, entry(-1, "a", 1), entry(0, "a", 1), entry(4097, "a", 1), entry(1, "a", -1), entry(1, "a", 4097),
		failed(1, "a", -1), failed(1, "a", 256), {Seq: 1, Name: "a", Code: 1, Gone: true}, {Seq: 1, Name: "a", Code: 1, Size: 1},
		{Seq: 1, Name: "a", Gone: true, Size: 1}, {Seq: 1, Name: "a", Key: api.Key{Client: -1}}, {Seq: 1, Name: "a", Key: api.Key{Seq: -1}},
		{Seq: 1, Name: "a", Key: api.Key{Client: 1 << 31}}, {Seq: 1, Name: "a", Key: api.Key{Seq: 1 << 31}},
		{Seq: 1, Name: "a", Key: api.Key{Client: 1 << 32}}, {Seq: 1, Name: "a", Key: api.Key{Seq: 1 << 32}}, failed(1, "a", 1<<32),
	}
	for _, n := range badNames() {
		bad = append(bad, entry(1, n, 1), gone(1, n), failed(1, n, 4))
	}
	goodChunks := []api.Chunk{{}, {Size: 4096}, {Size: 1, Data: []byte{}}, {Data: make([]byte, 4096)}, {Size: 4096, Data: make([]byte, 4096), Sum: 1}, {Sum: 1<<32 - 1}}
	badChunks := []api.Chunk{{Size: -1}, {Size: 4097}, {Data: make([]byte, 4097)}, {Size: 1 << 40}, {Size: -1 << 63}, {Data: make([]byte, 1<<17)}}
	h := active(api.Shard{Since: 1, Items: []api.Item{{Name: "a", Chunk: chunk(1, "a")}}})
	for _, c := range goodChunks {
		for _, e := range good {
			got := writesOk(t, h, 1, e, c)
			if shard.Check(got) != api.OK || shard.Head(got.Now) != 1 {
				t.Errorf("%+v: %+v", e, got)
			}
		}
	}
	refused := func(e api.Entry, c api.Chunk) {
		t.Helper()
		if got, errno := writes(t, h, 1, e, c); errno != api.ErrArg || text(got) != text(h) {
			t.Errorf("%+v, of a chunk of Size %d: error %d, %+v", e, c.Size, errno, got)
		}
	}
	for _, e := range bad {
		for _, c := range append(goodChunks, badChunks...) {
			refused(e, c)
		}
	}
	for _, c := range badChunks {
		// A chunk that may not be is refused beside an entry that does without it, too.
		for _, e := range append(good, entry(2, "a", 1), entry(3, "a", 1)) {
			refused(e, c)
		}
	}
}

// Sh3: Write of all small holders: the errors of the intervals ahead of those of entries,
// and what is left beside each.
func TestWrite(t *testing.T) {
	told := map[api.Errno]int{}
	l := append(small(4), full())
	for _, h := range l {
		for _, since := range []int{-1 << 63, -1, 0, 1, 2, 3, 4, 5, 9, 10, 1 << 20, 1<<20 + 1, 1<<63 - 1} {
			for seq := -1; seq <= 7; seq++ {
				for _, e := range []api.Entry{entry(seq, "a", since%100), entry(seq, "c", 2), gone(seq, "b"), failed(seq, "b", 6), entry(seq, "", 2)} {
					_, errno := writes(t, h, since, e, chunk(7, "seven"))
					told[errno]++
				}
			}
			writes(t, h, since, entry(1, "a", 1), chunk(-1, ""))
			writes(t, h, since, entry(4097, "a", 1), chunk(1, ""))
		}
	}
	for _, errno := range []api.Errno{api.OK, api.ErrArg, api.ErrOld, api.ErrNone, api.ErrBad, api.ErrWait} {
		if told[errno] < 100 {
			t.Errorf("error %d was told %d times: too little was tested", errno, told[errno])
		}
	}
}

// Sh3: the 4096th entry is the last one.
func TestTheLastEntry(t *testing.T) {
	s := api.Shard{Since: 2, Log: entries(4095)}
	h := writesOk(t, active(s), 2, entry(4096, "b", 1), chunk(1, "b"))
	if shard.Check(h) != api.OK || shard.Head(h.Now) != 4096 {
		t.Fatalf("head %d", shard.Head(h.Now))
	}
	if got, errno := writes(t, h, 2, entry(4097, "b", 1), chunk(1, "b")); errno != api.ErrArg || text(got) != text(h) {
		t.Errorf("one more: error %d", errno)
	}
	writesOk(t, h, 2, entry(4096, "b", 1), chunk(1, "b"))
	if got, errno := commits(t, h, 2, 4096); errno != api.OK || len(got.Now.Undos) != 0 {
		t.Errorf("Commit: error %d", errno)
	}
}

// Sh3, by hand: Commit lets the Undos up to an entry go, and no others.
func TestCommitByHand(t *testing.T) {
	s := wide(3)
	s.Undos = undosOf(s.Log)
	for head := 0; head <= 5; head++ {
		want := active(s)
		want.Now.Undos = s.Undos[head:]
		got, errno := commits(t, active(s), 3, head)
		if errno != api.OK || text(got) != text(want) {
			t.Errorf("Commit %d: error %d, %+v, and not %+v", head, errno, got, want)
		}
		// Once they are gone, they stay so.
		for lower := 0; lower <= head; lower++ {
			if again, errno := commits(t, got, 3, lower); errno != api.OK || text(again) != text(want) {
				t.Errorf("Commit %d behind %d: error %d, %+v", lower, head, errno, again)
			}
		}
		for back := 0; back <= 5; back++ {
			want := api.OK
			if back < head {
				want = api.ErrNone
			}
			if _, errno := backs(t, got.Now, back); errno != want {
				t.Errorf("Back %d behind Commit %d: error %d, want %d", back, head, errno, want)
			}
		}
	}
}

// Sh3: Commit activates, and not beside an error.
func TestCommitActivates(t *testing.T) {
	h := full()
	h.Next[1].Log, h.Next[1].Undos = h.Next[1].Log[:4], h.Next[1].Undos[:2]
	want := api.Holder{Fence: 9, Now: clonedShard(h.Next[1])}
	want.Now.Undos = want.Now.Undos[1:]
	if got, errno := commits(t, h, 9, 3); errno != api.OK || text(got) != text(want) {
		t.Errorf("error %d, %+v, and not %+v", errno, got, want)
	}
	// The head is that of the shard which Now is then: 4, and not the 5 of Now.
	for _, head := range []int{-1, 5, 6, 1 << 40, -1 << 63, 1<<63 - 1} {
		if got, errno := commits(t, h, 9, head); errno != api.ErrArg || text(got) != text(h) {
			t.Errorf("Commit %d: error %d, %+v", head, errno, got)
		}
	}
	if got, errno := commits(t, h, 5, 3); errno != api.ErrOld || text(got) != text(h) {
		t.Errorf("error %d, %+v", errno, got)
	}
}

// Sh3: Commit of all small holders, and at all edges.
func TestCommit(t *testing.T) {
	told := map[api.Errno]int{}
	for _, h := range append(small(4), full()) {
		for _, since := range []int{-1 << 63, -1, 0, 1, 2, 3, 4, 5, 9, 10, 1 << 20, 1<<20 + 1, 1<<63 - 1} {
			for _, head := range wild() {
				_, errno := commits(t, h, since, head)
				told[errno]++
			}
		}
	}
	for _, errno := range []api.Errno{api.OK, api.ErrArg, api.ErrOld, api.ErrNone} {
		if told[errno] < 50 {
			t.Errorf("error %d was told %d times: too little was tested", errno, told[errno])
		}
	}
}

// Sh1, Sh3: Data is any bytes, up to 4096 of them, and Sum any: they are told as they were
// given.
func TestAnyBytes(t *testing.T) {
	data := make([]byte, 4096)
	for i := range data {
		data[i] = byte(i * 7)
	}
	for _, c := range []api.Chunk{{}, {Size: 9, Data: []byte{0, ' ', 0xFF, '\n'}}, {Size: 4096, Data: data, Sum: 1<<32 - 1}, {Data: data[:4095], Sum: 7}} {
		h := writesOk(t, active(api.Shard{Since: 1}), 1, entry(1, "a", 9), c)
		h = writesOk(t, h, 1, entry(2, "a", 9), chunk(1, "other"))
		s, ok := shard.At(h, 1)
		if got := s.Undos[1].Was; !ok || text(got) != text(c) {
			t.Errorf("the Undo of %d bytes: %+v", len(c.Data), got)
		}
		back, errno := backs(t, s, 1)
		if errno != api.OK {
			t.Fatalf("error %d", errno)
		}
		has(t, back, "a", c)
	}
}
