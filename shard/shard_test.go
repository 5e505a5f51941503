package shard_test

import (
	"fmt"
	"math"
	"testing"

	"mooring/api"
	"mooring/shard"
)

// The chapter's example: Stage of Since 3, Write of Since 3, Seq 1: Now's Since is 3, its
// head 1. Stage of Since 2 then: ErrOld.
func TestExample(t *testing.T) {
	h, errno := shard.Stage(api.Holder{}, api.Shard{Since: 3})
	if errno != api.OK {
		t.Fatalf("Stage: error %d", errno)
	}
	h, errno = shard.Write(h, 3, api.Entry{Seq: 1, Name: "a"}, api.Chunk{})
	if errno != api.OK || h.Now.Since != 3 || shard.Head(h.Now) != 1 || len(h.Next) != 0 {
		t.Fatalf("Write: error %d, %+v", errno, h)
	}
	if got, errno := shard.Stage(h, api.Shard{Since: 2}); errno != api.ErrOld || text(got) != text(h) {
		t.Errorf("Stage: error %d, %+v", errno, got)
	}
}

// Sh1: the head is how many entries there are, of shards that may not be, too.
func TestHead(t *testing.T) {
	for many := range 6 {
		s := wide(3)
		s.Log = s.Log[:many]
		if got := shard.Head(s); got != many {
			t.Errorf("Head of %d entries is %d", many, got)
		}
	}
	if got := shard.Head(api.Shard{Log: []api.Entry{{Seq: 7}, {Seq: -1}}}); got != 2 {
		t.Errorf("Head is %d", got)
	}
	if got := shard.Head(api.Shard{Since: 1, Log: entries(4096)}); got != 4096 {
		t.Errorf("Head is %d", got)
	}
	if got := shard.Head(api.Shard{}); got != 0 {
		t.Errorf("Head of nothing is %d", got)
	}
}

// has looks whether a shard has a chunk of an object.
func has(t testing.TB, s api.Shard, name string, want api.Chunk) {
	t.Helper()
	if got, ok := shard.Get(s, name); !ok || text(got) != text(want) {
		t.Errorf("Get %q: %+v, %v, and not %+v", name, got, ok, want)
	}
}

// lacks looks whether a shard has nothing of an object.
func lacks(t testing.TB, s api.Shard, name string) {
	t.Helper()
	if got, ok := shard.Get(s, name); ok || text(got) != text(api.Chunk{}) {
		t.Errorf("Get %q: %+v, %v", name, got, ok)
	}
}

// Sh1: Get tells each item, and of no other name anything.
func TestGet(t *testing.T) {
	s := wide(3)
	has(t, s, "a", chunk(5, "aaaa"))
	has(t, s, "b", chunk(0, ""))
	has(t, s, "c", chunk(9, "cc"))
	for _, n := range append(badNames(), "A", "aa", "d", "x", "bb", "a\x00") {
		lacks(t, s, n)
		lacks(t, api.Shard{}, n)
	}
	s.Items[0].Chunk = api.Chunk{}
	has(t, s, "a", api.Chunk{})
}

// Sh1: Get of shards that may not be: the first of that name, wherever it stands, and
// whatever the name is.
func TestGetOfShardsThatMayNotBe(t *testing.T) {
	s := api.Shard{Since: -5, Items: []api.Item{
		{Name: "z", Chunk: chunk(1, "z")}, {Name: "b", Chunk: chunk(2, "first")}, {Name: "", Chunk: chunk(-3, "none")},
		{Name: "a/b", Chunk: chunk(4, "slash")}, {Name: "b", Chunk: chunk(5, "second")}, {Name: "a", Chunk: chunk(1<<40, "a")},
		{Name: "\xff", Chunk: chunk(7, "text")}, {Name: "a", Chunk: chunk(8, "later")},
	}}
	has(t, s, "z", chunk(1, "z"))
	has(t, s, "b", chunk(2, "first"))
	has(t, s, "", chunk(-3, "none"))
	has(t, s, "a/b", chunk(4, "slash"))
	has(t, s, "a", chunk(1<<40, "a"))
	has(t, s, "\xff", chunk(7, "text"))
	lacks(t, s, "c")
	lacks(t, s, "\xfe")
	has(t, api.Shard{Items: s.Items[1:2]}, "b", chunk(2, "first"))
}

// Sh1: Info tells who it is, and of Now and each Next the Since and the head.
func TestInfo(t *testing.T) {
	at := func(since, head int) api.Shard { return api.Shard{Since: since, Log: entries(head)} }
	many := api.Info{Osd: 4, Life: 9}
	for i := range 64 {
		many.Next = append(many.Next, api.Staged{Since: i + 1})
	}
	for what, known := range map[string]struct {
		h    api.Holder
		want api.Info
	}{
		"nothing":      {api.Holder{}, api.Info{Osd: 4, Life: 9}},
		"a Fence":      {api.Holder{Fence: 7}, api.Info{Osd: 4, Life: 9}},
		"Now":          {api.Holder{Fence: 7, Now: at(3, 2)}, api.Info{Osd: 4, Life: 9, Now: 3, Head: 2}},
		"an empty Now": {api.Holder{Fence: 7, Now: at(3, 0)}, api.Info{Osd: 4, Life: 9, Now: 3}},
		"a Next": {api.Holder{Fence: 7, Next: []api.Shard{at(7, 5)}},
			api.Info{Osd: 4, Life: 9, Next: []api.Staged{{Since: 7, Head: 5}}}},
		"all": {api.Holder{Fence: 9, Now: at(3, 6), Next: []api.Shard{at(5, 4), at(6, 0), at(9, 1)}},
			api.Info{Osd: 4, Life: 9, Now: 3, Head: 6, Next: []api.Staged{{Since: 5, Head: 4}, {Since: 6}, {Since: 9, Head: 1}}}},
		"what may not be": {api.Holder{Fence: -1, Now: at(-3, 2), Next: []api.Shard{at(9, 1), at(9, 2), at(0, 3)}},
			api.Info{Osd: 4, Life: 9, Now: -3, Head: 2, Next: []api.Staged{{Since: 9, Head: 1}, {Since: 9, Head: 2}, {Head: 3}}}},
		"64 Next": {standing(1, 64), many},
	} {
		if got := shard.Info(known.h, 4, 9); text(got) != text(known.want) {
			t.Errorf("%s: %+v, and not %+v", what, got, known.want)
		}
	}
	for _, osd := range wild() {
		for _, life := range wild() {
			if got := shard.Info(api.Holder{}, osd, life); got.Osd != osd || got.Life != life {
				t.Fatalf("Info of %d, %d: %+v", osd, life, got)
			}
		}
	}
}

// Sh1: At tells Now, or one of Next, by its Since.
func TestAt(t *testing.T) {
	h := full()
	h.Now.Place, h.Next[0].Place, h.Next[1].Place = 1, 2, 3
	tells := func(h api.Holder, since int, want api.Shard) {
		t.Helper()
		if got, ok := shard.At(h, since); !ok || text(got) != text(want) {
			t.Errorf("At %d: %+v, %v, and not %+v", since, got, ok, want)
		}
	}
	tellsNone := func(h api.Holder, since int) {
		t.Helper()
		if got, ok := shard.At(h, since); ok || text(got) != text(api.Shard{}) {
			t.Errorf("At %d: %+v, %v", since, got, ok)
		}
	}
	tells(h, 3, h.Now)
	tells(h, 5, h.Next[0])
	tells(h, 9, h.Next[1])
	for _, since := range wild() {
		tellsNone(api.Holder{}, since)
		tellsNone(api.Holder{Fence: since}, since)
		if since != 3 && since != 5 && since != 9 {
			tellsNone(h, since)
		}
	}
	// Of what may not be: Now ahead of Next, the first of these, and never one of 0 or below.
	h.Fence, h.Now.Since, h.Next[0].Since = -1, 9, 9
	tells(h, 9, h.Now)
	h.Now.Since = 1
	tells(h, 9, h.Next[0])
	h.Now.Since, h.Next[0].Since, h.Next[1].Since = 0, -4, math.MaxInt
	tellsNone(h, 0)
	tellsNone(h, -4)
	tells(h, math.MaxInt, h.Next[1])
	h.Now.Since = math.MinInt
	tellsNone(h, math.MinInt)
}

// parts are turns of a holder, one of each part that it has.
func parts() map[string]func(h *api.Holder) {
	out := map[string]func(h *api.Holder){
		"Fence":         func(h *api.Holder) { h.Fence++ },
		"a Next less":   func(h *api.Holder) { h.Next = h.Next[:1] },
		"a Next more":   func(h *api.Holder) { h.Next = append(h.Next, api.Shard{}) },
		"the first one": func(h *api.Holder) { h.Next = h.Next[1:] },
		"swapped":       func(h *api.Holder) { h.Next[0], h.Next[1] = h.Next[1], h.Next[0] },
		"Now for Next":  func(h *api.Holder) { h.Now, h.Next[0] = h.Next[0], h.Now },
	}
	shards := map[string]func(h *api.Holder) *api.Shard{
		"Now":       func(h *api.Holder) *api.Shard { return &h.Now },
		"a Next":    func(h *api.Holder) *api.Shard { return &h.Next[0] },
		"last Next": func(h *api.Holder) *api.Shard { return &h.Next[1] },
	}
	for where, of := range shards {
		add := func(what string, do func(s *api.Shard)) {
			out[where+": "+what] = func(h *api.Holder) { do(of(h)) }
		}
		add("Place", func(s *api.Shard) { s.Place++ })
		add("Since", func(s *api.Shard) { s.Since++ })
		add("an item less", func(s *api.Shard) { s.Items = s.Items[:2] })
		add("an item more", func(s *api.Shard) { s.Items = append(s.Items, api.Item{}) })
		add("an entry less", func(s *api.Shard) { s.Log = s.Log[:4] })
		add("an entry more", func(s *api.Shard) { s.Log = append(s.Log, api.Entry{}) })
		add("an Undo less", func(s *api.Shard) { s.Undos = s.Undos[:2] })
		add("an Undo more", func(s *api.Shard) { s.Undos = append(s.Undos, api.Undo{}) })
		add("no items", func(s *api.Shard) { s.Items = nil })
		add("no Log", func(s *api.Shard) { s.Log = nil })
		add("no Undos", func(s *api.Shard) { s.Undos = nil })
		for i := range 3 {
			at := fmt.Sprintf(" of %d", i)
			add("an item's Name"+at, func(s *api.Shard) { s.Items[i].Name += "x" })
			add("an item's Size"+at, func(s *api.Shard) { s.Items[i].Chunk.Size++ })
			add("an item's Sum"+at, func(s *api.Shard) { s.Items[i].Chunk.Sum++ })
			add("an item's Data"+at, func(s *api.Shard) { s.Items[i].Chunk.Data = append(s.Items[i].Chunk.Data, 0) })
			add("an entry's Seq"+at, func(s *api.Shard) { s.Log[i].Seq++ })
			add("an entry's Client"+at, func(s *api.Shard) { s.Log[i].Key.Client++ })
			add("a Key's Seq"+at, func(s *api.Shard) { s.Log[i].Key.Seq++ })
			add("an entry's Name"+at, func(s *api.Shard) { s.Log[i].Name = "" })
			add("an entry's Code"+at, func(s *api.Shard) { s.Log[i].Code++ })
			add("an entry's Gone"+at, func(s *api.Shard) { s.Log[i].Gone = !s.Log[i].Gone })
			add("an entry's Size"+at, func(s *api.Shard) { s.Log[i].Size++ })
			add("an Undo's Seq"+at, func(s *api.Shard) { s.Undos[i].Seq++ })
			add("an Undo's Name"+at, func(s *api.Shard) { s.Undos[i].Name = "" })
			add("an Undo's Has"+at, func(s *api.Shard) { s.Undos[i].Has = !s.Undos[i].Has })
			add("an Undo's Size"+at, func(s *api.Shard) { s.Undos[i].Was.Size-- })
			add("an Undo's Sum"+at, func(s *api.Shard) { s.Undos[i].Was.Sum-- })
			add("an Undo's Data"+at, func(s *api.Shard) { s.Undos[i].Was.Data = append([]byte{9}, s.Undos[i].Was.Data...) })
		}
		add("a byte of an item", func(s *api.Shard) { s.Items[0].Chunk.Data[3] ^= 1 })
		add("a byte of an Undo", func(s *api.Shard) { s.Undos[2].Was.Data[0] ^= 0x80 })
	}
	return out
}

// Sh1: Same tells each part that is another one, either way round, and nothing else.
func TestSame(t *testing.T) {
	for what, do := range parts() {
		a, b, c := full(), full(), full()
		do(&b)
		do(&c)
		if shard.Same(a, b) || shard.Same(b, a) {
			t.Errorf("%s is another one, and Same tells that it is not", what)
		}
		if !shard.Same(b, c) || !shard.Same(b, cloned(b)) {
			t.Errorf("%s: Same of two that are alike", what)
		}
	}
	a, b := full(), full()
	a.Now.Items[1].Chunk.Data, b.Now.Items[1].Chunk.Data = nil, []byte{}
	a.Next[0], b.Next[0] = api.Shard{Since: 1}, api.Shard{Since: 1, Items: []api.Item{}, Log: []api.Entry{}, Undos: []api.Undo{}}
	if !shard.Same(a, b) || !shard.Same(b, a) || !shard.Same(a, a) {
		t.Error("nil and the empty list are not the same")
	}
	if !shard.Same(api.Holder{}, api.Holder{Next: []api.Shard{}}) || shard.Same(api.Holder{}, full()) || shard.Same(full(), api.Holder{}) {
		t.Error("Same of nothing")
	}
}
