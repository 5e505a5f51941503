package shard_test

import (
	"testing"

	"mooring/api"
	"mooring/shard"
)

// Sh1: Back by hand: three entries, one behind the other.
func TestBackByHand(t *testing.T) {
	one, two := chunk(5, "one"), chunk(6, "two")
	s := api.Shard{
		Place: 4,
		Since: 3,
		Items: []api.Item{{Name: "b", Chunk: two}, {Name: "c", Chunk: one}},
		Log:   []api.Entry{entry(1, "a", 5), gone(2, "a"), entry(3, "b", 6)},
		Undos: []api.Undo{{Seq: 1, Name: "a", Has: true, Was: two}, {Seq: 2, Name: "a", Has: true, Was: one}, {Seq: 3, Name: "b"}},
	}
	for head, want := range [][]api.Item{
		{{Name: "a", Chunk: two}, {Name: "c", Chunk: one}},
		{{Name: "a", Chunk: one}, {Name: "c", Chunk: one}},
		{{Name: "c", Chunk: one}},
		{{Name: "b", Chunk: two}, {Name: "c", Chunk: one}},
	} {
		got, errno := shard.Back(s, head)
		if errno != api.OK || text(got.Items) != text(want) || got.Place != 4 || got.Since != 3 ||
			text(got.Log) != text(s.Log[:head]) || text(got.Undos) != text(s.Undos[:head]) {
			t.Errorf("Back %d: error %d, %+v, and not %+v", head, errno, got, want)
		}
	}
}

// Sh1: the last one is taken back first: of two that turned one object the first one's
// Undo stands.
func TestTheLastIsTakenBackFirst(t *testing.T) {
	s := api.Shard{Since: 1}
	s.Items = []api.Item{{Name: "a", Chunk: chunk(9, "now")}}
	s.Log = []api.Entry{entry(1, "a", 1), entry(2, "a", 2), entry(3, "a", 3)}
	s.Undos = []api.Undo{
		{Seq: 1, Name: "a"}, {Seq: 2, Name: "a", Has: true, Was: chunk(1, "one")}, {Seq: 3, Name: "a", Has: true, Was: chunk(2, "two")},
	}
	for head, want := range []string{"", "one", "two", "now"} {
		got, errno := shard.Back(s, head)
		if errno != api.OK {
			t.Errorf("Back %d: error %d", head, errno)
		}
		if c, ok := shard.Get(got, "a"); ok != (head > 0) || string(c.Data) != want {
			t.Errorf("Back %d: %q, %v, and not %q", head, c.Data, ok, want)
		}
	}
}

// Sh1: an item is as its Undo says, whatever the entry was, and whatever was there.
func TestBackGoesByTheUndo(t *testing.T) {
	now, was := chunk(4, "now"), chunk(7, "was")
	for _, e := range []api.Entry{entry(1, "b", 4), gone(1, "b"), failed(1, "b", api.ErrNone)} {
		for _, there := range []bool{false, true} {
			for _, u := range []api.Undo{{Seq: 1, Name: "b"}, {Seq: 1, Name: "b", Has: true, Was: was}, {Seq: 1, Name: "b", Has: true}} {
				s := api.Shard{Since: 1, Log: []api.Entry{e}, Undos: []api.Undo{u}}
				s.Items = []api.Item{{Name: "a", Chunk: now}, {Name: "c", Chunk: was}}
				if there {
					s.Items = []api.Item{{Name: "a", Chunk: now}, {Name: "b", Chunk: now}, {Name: "c", Chunk: was}}
				}
				got, errno := backs(t, s, 0)
				c, ok := shard.Get(got, "b")
				if errno != api.OK || ok != u.Has || text(c) != text(u.Was) || shard.Head(got) != 0 || len(got.Undos) != 0 {
					t.Errorf("%+v, %v, %+v: error %d, %+v", e, there, u, errno, got)
				}
				has(t, got, "a", now)
				has(t, got, "c", was)
			}
		}
	}
}

// Sh1: Back's errors: ErrArg of what may not be and of a head that is not, ahead of
// ErrNone of an entry without an Undo.
func TestBackRefuses(t *testing.T) {
	for undos := 0; undos <= 5; undos++ {
		s := wide(3)
		s.Undos = undosOf(s.Log)[5-undos:]
		for i := range s.Undos {
			s.Undos[i].Has = true
		}
		for _, head := range wild() {
			want := api.OK
			if head < 5-undos {
				want = api.ErrNone
			}
			if head < 0 || head > 5 {
				want = api.ErrArg
			}
			got, errno := backs(t, s, head)
			if errno != want || errno != api.OK && text(got) != text(api.Shard{}) {
				t.Errorf("%d Undos, Back %d: error %d, want %d: %+v", undos, head, errno, want, got)
			}
		}
	}
	for _, x := range badShards() {
		for _, head := range []int{-1, 0, 2, 3, 5, 6} {
			if got, errno := shard.Back(x.turned(3), head); errno != api.ErrArg || text(got) != text(api.Shard{}) {
				t.Errorf("%s: Back %d: error %d, %+v", x.what, head, errno, got)
			}
		}
	}
}

// Sh1: Back of shards at the edges, and of none.
func TestBackAtTheEdges(t *testing.T) {
	for _, x := range goodShards() {
		s := x.turned(1 << 20)
		for _, head := range []int{-1, 0, 1, 2, 3, 4, 5, 6, len(s.Log) - 1, len(s.Log), len(s.Log) + 1} {
			backs(t, s, head)
		}
	}
	for _, head := range wild() {
		want := api.ErrArg
		if head == 0 {
			want = api.OK
		}
		if got, errno := shard.Back(api.Shard{}, head); errno != want || text(got) != text(api.Shard{}) {
			t.Errorf("Back %d of none: error %d, %+v", head, errno, got)
		}
	}
}

// Sh1: 4096 entries, of as many objects and of one, may be taken back, all or some.
func TestBackOfMany(t *testing.T) {
	for _, same := range []bool{false, true} {
		s := api.Shard{Since: 7, Items: []api.Item{{Name: "zz", Chunk: chunk(1, "z")}}}
		for seq := 1; seq <= 4096; seq++ {
			// Names neither rise nor fall.
			n := string(rune('a' + seq*17%26))
			if !same {
				n += string(rune(0x4E00 + seq*1237%4096))
			}
			s.Log = append(s.Log, gone(seq, n))
			s.Undos = append(s.Undos, api.Undo{Seq: seq, Name: n, Has: seq%3 > 0 || !same})
		}
		for _, head := range []int{0, 1, 17, 2048, 4095, 4096} {
			got, errno := backs(t, s, head)
			if errno != api.OK || shard.Head(got) != head || len(got.Undos) != head || shard.CheckShard(got) != api.OK {
				t.Fatalf("Back %d: error %d", head, errno)
			}
			if !same && len(got.Items) != 4097-head {
				t.Fatalf("Back %d: %d items", head, len(got.Items))
			}
		}
	}
}
