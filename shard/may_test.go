package shard_test

import (
	"math"
	"slices"
	"strings"
	"testing"

	"mooring/api"
	"mooring/shard"
)

// A turn turns a shard that may be (wide) into another one.
type turn struct {
	what string
	do   func(s *api.Shard)
}

// badNames are names that may not be.
func badNames() []string {
	return []string{"", "a/b", "a\x00", "\x7f", " a", "a ", "\xff", "a\xe2\x82", "\uFFFD", strings.Repeat("é", 65)}
}

// goodShards are turns to shards that may be, each at an edge that the chapter names.
func goodShards() []turn {
	return []turn{
		{"nothing is turned", func(s *api.Shard) {}},
		{"Place 0", func(s *api.Shard) { s.Place = 0 }},
		{"Place 31", func(s *api.Shard) { s.Place = 31 }},
		{"no items", func(s *api.Shard) { s.Items = nil }},
		{"one item", func(s *api.Shard) { s.Items = s.Items[1:2] }},
		{"items rise by bytes", func(s *api.Shard) {
			s.Items[0].Name, s.Items[1].Name, s.Items[2].Name = "Z", "a", "é"
		}},
		{"a beginning is ahead", func(s *api.Shard) { s.Items[0].Name, s.Items[1].Name, s.Items[2].Name = "a", "aa", "ab" }},
		{"a name of 64 runes", func(s *api.Shard) { s.Items[2].Name = strings.Repeat("日", 64) }},
		{"Size 0", func(s *api.Shard) { s.Items[0].Chunk.Size = 0 }},
		{"Size 4096", func(s *api.Shard) { s.Items[0].Chunk.Size = 4096 }},
		{"no Data", func(s *api.Shard) { s.Items[0].Chunk.Data = nil }},
		{"4096 bytes", func(s *api.Shard) { s.Items[0].Chunk.Data = make([]byte, 4096) }},
		{"more Data than Size", func(s *api.Shard) { s.Items[0].Chunk = api.Chunk{Size: 0, Data: make([]byte, 4096)} }},
		{"any Sum", func(s *api.Shard) { s.Items[0].Chunk.Sum = math.MaxUint32 }},
		{"Sum 0", func(s *api.Shard) { s.Items[0].Chunk.Sum = 0 }},
		{"no entries", func(s *api.Shard) { s.Log, s.Undos = nil, nil }},
		{"one entry", func(s *api.Shard) { s.Log, s.Undos = s.Log[:1], nil }},
		{"Client 0", func(s *api.Shard) { s.Log[0].Key.Client = 0 }},
		{"Client 2^31 - 1", func(s *api.Shard) { s.Log[0].Key.Client = 1<<31 - 1 }},
		{"Seq of a Key 0", func(s *api.Shard) { s.Log[0].Key.Seq = 0 }},
		{"Seq of a Key 2^31 - 1", func(s *api.Shard) { s.Log[0].Key.Seq = 1<<31 - 1 }},
		{"alike Keys", func(s *api.Shard) { s.Log[1].Key, s.Log[2].Key = s.Log[0].Key, s.Log[0].Key }},
		{"an entry's name of 64 runes", func(s *api.Shard) { s.Log[0].Name = strings.Repeat("日", 64) }},
		{"an entry's Size 0", func(s *api.Shard) { s.Log[0].Size = 0 }},
		{"an entry's Size 4096", func(s *api.Shard) { s.Log[0].Size = 4096 }},
		{"Code 1", func(s *api.Shard) { s.Log[0].Code, s.Log[0].Size = 1, 0 }},
		{"Code 255", func(s *api.Shard) { s.Log[0].Code, s.Log[0].Size = 255, 0 }},
		{"an entry of Gone", func(s *api.Shard) { s.Log[0].Gone, s.Log[0].Size = true, 0 }},
		{"4096 entries", func(s *api.Shard) { s.Log, s.Undos = entries(4096), nil }},
		{"4096 entries, and Undos of all", func(s *api.Shard) { s.Log, s.Undos = entries(4096), undosOf(entries(4096)) }},
		{"no Undos", func(s *api.Shard) { s.Undos = nil }},
		{"an Undo of the last one", func(s *api.Shard) { s.Undos = s.Undos[2:] }},
		{"Undos of all", func(s *api.Shard) { s.Undos = undosOf(s.Log) }},
		{"an Undo that had nothing", func(s *api.Shard) { s.Undos[0].Has, s.Undos[0].Was = false, api.Chunk{} }},
		{"an Undo that had an empty chunk", func(s *api.Shard) { s.Undos[0].Was = api.Chunk{} }},
		{"an Undo's Size 4096", func(s *api.Shard) { s.Undos[0].Was.Size = 4096 }},
		{"an Undo's 4096 bytes", func(s *api.Shard) { s.Undos[0].Was.Data = make([]byte, 4096) }},
		{"an Undo's Sum", func(s *api.Shard) { s.Undos[0].Was.Sum = math.MaxUint32 }},
		{"an Undo of what is there still", func(s *api.Shard) { s.Undos[0].Was = s.Items[0].Chunk }},
		{"empty lists", func(s *api.Shard) {
			s.Items, s.Log, s.Undos = []api.Item{}, []api.Entry{}, []api.Undo{}
		}},
		{"an empty list of bytes where nothing was", func(s *api.Shard) { s.Undos[1].Was.Data = []byte{} }},
	}
}

// badShards are turns to shards that may not be, of each part each wrong thing.
func badShards() []turn {
	out := []turn{
		{"Since below 0", func(s *api.Shard) { s.Since = -1 }},
		{"Since above the last epoch", func(s *api.Shard) { s.Since = 1<<20 + 1 }},
		{"Since far below 0", func(s *api.Shard) { s.Since = math.MinInt }},
		{"Since far above", func(s *api.Shard) { s.Since = math.MaxInt }},
		{"Since 0 with all", func(s *api.Shard) { s.Since = 0 }},
		{"Since 0 with a Place", func(s *api.Shard) { *s = api.Shard{Place: 1} }},
		{"Since 0 with items", func(s *api.Shard) { *s = api.Shard{Items: s.Items} }},
		{"Since 0 with entries", func(s *api.Shard) { *s = api.Shard{Log: s.Log} }},
		{"Since 0 with entries and Undos", func(s *api.Shard) { *s = api.Shard{Log: s.Log, Undos: s.Undos} }},
		{"Since 0 with Undos", func(s *api.Shard) { *s = api.Shard{Undos: s.Undos[:1]} }},
		{"Place below 0", func(s *api.Shard) { s.Place = -1 }},
		{"Place 32", func(s *api.Shard) { s.Place = 32 }},
		{"Place far above", func(s *api.Shard) { s.Place = math.MaxInt }},
		{"two items of one name", func(s *api.Shard) { s.Items[1].Name = "a" }},
		{"the last two items of one name", func(s *api.Shard) { s.Items[2].Name = "b" }},
		{"items that fall", func(s *api.Shard) { s.Items[0], s.Items[1] = s.Items[1], s.Items[0] }},
		{"the last items fall", func(s *api.Shard) { s.Items[1], s.Items[2] = s.Items[2], s.Items[1] }},
		{"items without their capitals", func(s *api.Shard) { s.Items[2].Name = "C" }},
		{"too many entries", func(s *api.Shard) { s.Log, s.Undos = entries(4097), nil }},
		{"entries from 0 on", func(s *api.Shard) { s.Log, s.Undos = append([]api.Entry{entry(0, "a", 1)}, s.Log...), nil }},
		{"entries from 2 on", func(s *api.Shard) { s.Log = s.Log[1:] }},
		{"a gap", func(s *api.Shard) { s.Log = slices.Delete(s.Log, 1, 2) }},
		{"an entry twice", func(s *api.Shard) { s.Log[1].Seq = 1 }},
		{"entries that fall", func(s *api.Shard) { s.Log[0], s.Log[1] = s.Log[1], s.Log[0] }},
		{"Code and Gone", func(s *api.Shard) { s.Log[2].Gone = true }},
		{"Code and Size", func(s *api.Shard) { s.Log[2].Size = 1 }},
		{"Code, Gone and Size", func(s *api.Shard) { s.Log[2].Gone, s.Log[2].Size = true, 1 }},
		{"Gone and Size", func(s *api.Shard) { s.Log[1].Size = 1 }},
		{"more Undos than entries", func(s *api.Shard) { s.Log = nil }},
		{"one Undo more than entries", func(s *api.Shard) {
			s.Undos = append([]api.Undo{{Seq: 0, Name: "a"}}, undosOf(s.Log)...)
		}},
		{"no Undo of the last one", func(s *api.Shard) { s.Undos = s.Undos[:2] }},
		{"the first Undos alone", func(s *api.Shard) { s.Undos = undosOf(s.Log)[:3] }},
		{"no Undo between", func(s *api.Shard) { s.Undos = slices.Delete(s.Undos, 1, 2) }},
		{"Undos that fall", func(s *api.Shard) { s.Undos[1], s.Undos[2] = s.Undos[2], s.Undos[1] }},
		{"an Undo twice", func(s *api.Shard) { s.Undos[1] = s.Undos[2] }},
		{"Size where nothing was", func(s *api.Shard) { s.Undos[1].Was.Size = 1 }},
		{"Sum where nothing was", func(s *api.Shard) { s.Undos[1].Was.Sum = 1 }},
		{"Data where nothing was", func(s *api.Shard) { s.Undos[1].Was.Data = []byte{0} }},
		{"all where nothing was", func(s *api.Shard) { s.Undos[2].Has = false }},
	}
	return slices.Concat(out, badParts())
}

// badParts are turns by which one item, entry or Undo of each place may not be.
func badParts() []turn {
	var out []turn
	add := func(what string, do func(s *api.Shard)) { out = append(out, turn{what, do}) }
	for i := range 3 {
		for _, n := range badNames() {
			add("an item's name "+text(n), func(s *api.Shard) { s.Items = s.Items[i : i+1]; s.Items[0].Name = n })
		}
		add("an item's Size below 0", func(s *api.Shard) { s.Items[i].Chunk.Size = -1 })
		add("an item's Size 4097", func(s *api.Shard) { s.Items[i].Chunk.Size = 4097 })
		add("an item's 4097 bytes", func(s *api.Shard) { s.Items[i].Chunk.Data = make([]byte, 4097) })
		add("an Undo's Seq below its own", func(s *api.Shard) { s.Undos[i].Seq-- })
		add("an Undo's Seq above its own", func(s *api.Shard) { s.Undos[i].Seq++ })
		add("an Undo's Name", func(s *api.Shard) { s.Undos[i].Name = "other" })
		add("an Undo's Name is none", func(s *api.Shard) { s.Undos[i].Name = "" })
		add("an Undo's Size below 0", func(s *api.Shard) { s.Undos[i].Has, s.Undos[i].Was.Size = true, -1 })
		add("an Undo's Size 4097", func(s *api.Shard) { s.Undos[i].Has, s.Undos[i].Was.Size = true, 4097 })
		add("an Undo's 4097 bytes", func(s *api.Shard) { s.Undos[i].Has, s.Undos[i].Was.Data = true, make([]byte, 4097) })
	}
	for i := range 5 {
		// A name that may not be may not be in an Undo either, so that nothing else is wrong.
		for _, n := range badNames() {
			add("an entry's name "+text(n), func(s *api.Shard) { s.Log[i].Name = n; s.Undos = undosOf(s.Log) })
		}
		for _, n := range []int{-1, 1 << 31, math.MinInt, math.MaxInt} {
			add("a Client", func(s *api.Shard) { s.Log[i].Key.Client = n })
			add("a Key's Seq", func(s *api.Shard) { s.Log[i].Key.Seq = n })
		}
		for _, n := range []int{-1, 4097, math.MinInt, math.MaxInt} {
			add("an entry's Size", func(s *api.Shard) { s.Log[i].Code, s.Log[i].Gone, s.Log[i].Size = 0, false, n })
		}
		for _, n := range []int{-1, 256, math.MinInt, math.MaxInt} {
			add("a Code", func(s *api.Shard) { s.Log[i].Code, s.Log[i].Gone, s.Log[i].Size = api.Errno(n), false, 0 })
		}
		for _, n := range []int{-1, 0, i, i + 2, 4097} {
			add("an entry's Seq", func(s *api.Shard) { s.Log[i].Seq = n; s.Undos = nil })
		}
	}
	return out
}

// entries are so many, of one object.
func entries(many int) []api.Entry {
	var out []api.Entry
	for seq := 1; seq <= many; seq++ {
		out = append(out, entry(seq, "a", 1))
	}
	return out
}

// undosOf are Undos of each of some entries.
func undosOf(l []api.Entry) []api.Undo {
	var out []api.Undo
	for _, e := range l {
		out = append(out, api.Undo{Seq: e.Seq, Name: e.Name, Has: e.Seq%2 == 0})
	}
	return out
}

// turned is wide, of an interval, turned.
func (x turn) turned(since int) api.Shard {
	s := wide(since)
	x.do(&s)
	return s
}

// Sh1: CheckShard of shards that may be.
func TestShardsThatMayBe(t *testing.T) {
	for _, since := range []int{1, 2, 1<<20 - 1, 1 << 20} {
		for _, x := range goodShards() {
			if s := x.turned(since); shard.CheckShard(s) != api.OK || !slowShardMay(s) {
				t.Errorf("Since %d, %s: error %d", since, x.what, shard.CheckShard(s))
			}
		}
	}
	if shard.CheckShard(api.Shard{}) != api.OK {
		t.Error("the zero shard")
	}
	if shard.CheckShard(api.Shard{Items: []api.Item{}, Log: make([]api.Entry, 0, 4), Undos: []api.Undo{}}) != api.OK {
		t.Error("the zero shard with empty lists")
	}
}

// Sh1: CheckShard of shards that may not be.
func TestShardsThatMayNotBe(t *testing.T) {
	for _, since := range []int{1, 3, 1 << 20} {
		for _, x := range badShards() {
			if s := x.turned(since); shard.CheckShard(s) != api.ErrArg || slowShardMay(s) {
				t.Errorf("Since %d, %s: error %d", since, x.what, shard.CheckShard(s))
			}
		}
	}
}

// Sh1: Since and Place, at all edges.
func TestSinceAndPlaceAtTheEdges(t *testing.T) {
	for _, since := range wild() {
		for _, place := range wild() {
			want := api.ErrArg
			if since >= 1 && since <= 1<<20 && place >= 0 && place < 32 || since == 0 && place == 0 {
				want = api.OK
			}
			if got := shard.CheckShard(api.Shard{Since: since, Place: place}); got != want {
				t.Errorf("Since %d, Place %d: error %d, want %d", since, place, got, want)
			}
		}
	}
}

// mayBe and mayNotBe look at what Check tells.
func mayBe(t *testing.T, what string, h api.Holder) {
	t.Helper()
	if shard.Check(h) != api.OK || !slowMay(h) {
		t.Errorf("%s: error %d", what, shard.Check(h))
	}
}

func mayNotBe(t *testing.T, what string, h api.Holder) {
	t.Helper()
	if shard.Check(h) != api.ErrArg || slowMay(h) {
		t.Errorf("%s: error %d", what, shard.Check(h))
	}
}

// standing is a holder whose Next are empty shards of so many intervals from one on.
func standing(first, many int) api.Holder {
	h := api.Holder{Fence: first + many - 1}
	for since := first; since < first+many; since++ {
		h.Next = append(h.Next, api.Shard{Since: since})
	}
	return h
}

// Sh1: Check of holders that may be.
func TestHoldersThatMayBe(t *testing.T) {
	mayBe(t, "the zero one", api.Holder{})
	mayBe(t, "the zero one with an empty list", api.Holder{Next: []api.Shard{}})
	mayBe(t, "a Fence alone", api.Holder{Fence: 1})
	mayBe(t, "the last Fence alone", api.Holder{Fence: 1 << 20})
	mayBe(t, "Now alone", api.Holder{Fence: 3, Now: wide(3)})
	mayBe(t, "Now, below Fence", api.Holder{Fence: 4, Now: wide(3)})
	mayBe(t, "Next alone", api.Holder{Fence: 1, Next: []api.Shard{wide(1)}})
	mayBe(t, "one behind the other", api.Holder{Fence: 4, Now: wide(1), Next: []api.Shard{wide(2), wide(3), wide(4)}})
	mayBe(t, "the last epochs", api.Holder{Fence: 1 << 20, Now: wide(1<<20 - 2), Next: []api.Shard{wide(1<<20 - 1), wide(1 << 20)}})
	mayBe(t, "64 Next", standing(1, 64))
	mayBe(t, "64 Next, the last ones", standing(1<<20-63, 64))
	mayBe(t, "far apart", api.Holder{Fence: 1 << 20, Next: []api.Shard{wide(1), wide(1 << 19)}})
	for _, x := range goodShards() {
		mayBe(t, "Now: "+x.what, api.Holder{Fence: 9, Now: x.turned(3), Next: []api.Shard{wide(5), wide(9)}})
		mayBe(t, "a Next: "+x.what, api.Holder{Fence: 9, Now: wide(3), Next: []api.Shard{x.turned(5), wide(9)}})
		mayBe(t, "the last Next: "+x.what, api.Holder{Fence: 9, Now: wide(3), Next: []api.Shard{wide(5), x.turned(9)}})
	}
}

// badHolders are holders that may not be, with what is wrong.
func badHolders() ([]api.Holder, []string) {
	var out []api.Holder
	var whats []string
	add := func(what string, h api.Holder) { out, whats = append(out, h), append(whats, what) }
	for _, n := range []int{-1, 1<<20 + 1, math.MinInt, math.MaxInt} {
		add("a Fence that may not be", api.Holder{Fence: n})
		add("a Fence that may not be, with all", api.Holder{Fence: n, Now: wide(3), Next: []api.Shard{wide(5)}})
	}
	add("Now above Fence", api.Holder{Fence: 2, Now: wide(3)})
	add("Now above no Fence", api.Holder{Now: wide(1)})
	add("a Next above Fence", api.Holder{Fence: 8, Now: wide(3), Next: []api.Shard{wide(5), wide(9)}})
	add("a Next above no Fence", api.Holder{Next: []api.Shard{wide(1)}})
	add("all above Fence", api.Holder{Fence: 2, Now: wide(3), Next: []api.Shard{wide(5), wide(9)}})
	add("a Next of Now's Since", api.Holder{Fence: 9, Now: wide(5), Next: []api.Shard{wide(5), wide(9)}})
	add("a Next below Now", api.Holder{Fence: 9, Now: wide(6), Next: []api.Shard{wide(5), wide(9)}})
	add("all Next below Now", api.Holder{Fence: 9, Now: wide(9), Next: []api.Shard{wide(5), wide(6)}})
	add("two Next of one Since", api.Holder{Fence: 9, Now: wide(3), Next: []api.Shard{wide(5), wide(5)}})
	add("Next that fall", api.Holder{Fence: 9, Now: wide(3), Next: []api.Shard{wide(9), wide(5)}})
	add("the last Next fall", api.Holder{Fence: 9, Now: wide(1), Next: []api.Shard{wide(5), wide(9), wide(7)}})
	add("a Next that is none", api.Holder{Fence: 9, Now: wide(3), Next: []api.Shard{{}}})
	add("a Next that is none, and no Now", api.Holder{Fence: 9, Next: []api.Shard{{}, wide(9)}})
	add("65 Next", standing(1, 65))
	add("65 Next behind Now", api.Holder{Fence: 99, Now: wide(1), Next: standing(2, 65).Next})
	for _, x := range badShards() {
		add("Now: "+x.what, api.Holder{Fence: 9, Now: x.turned(3), Next: []api.Shard{wide(5), wide(9)}})
		add("Now alone: "+x.what, api.Holder{Fence: 3, Now: x.turned(3)})
		add("a Next: "+x.what, api.Holder{Fence: 9, Now: wide(3), Next: []api.Shard{x.turned(5), wide(9)}})
		add("the last Next: "+x.what, api.Holder{Fence: 9, Now: wide(3), Next: []api.Shard{wide(5), x.turned(9)}})
	}
	return out, whats
}

// Sh1: Check of holders that may not be; and all that tell a holder tell ErrArg and the
// zero one, whatever else is wrong.
func TestHoldersThatMayNotBe(t *testing.T) {
	l, whats := badHolders()
	wrong := api.Shard{Since: -1}
	for i, h := range l {
		mayNotBe(t, whats[i], h)
		for _, since := range []int{-1, 0, 1, 3, 4, 5, 9, 10, 1 << 20, 1<<20 + 1} {
			refused := func(call string, got api.Holder, errno api.Errno) {
				t.Helper()
				if errno != api.ErrArg || text(got) != text(api.Holder{}) {
					t.Fatalf("%s: %s of %d: error %d, %+v", whats[i], call, since, errno, got)
				}
			}
			got, errno := shard.Ask(h, since)
			refused("Ask", got, errno)
			got, errno = shard.Stage(h, wide(since))
			refused("Stage", got, errno)
			got, errno = shard.Stage(h, wrong)
			refused("Stage of a wrong one", got, errno)
			got, errno = shard.Activate(h, since)
			refused("Activate", got, errno)
			got, errno = shard.Write(h, since, entry(6, "a", 1), chunk(1, "a"))
			refused("Write", got, errno)
			got, errno = shard.Write(h, since, api.Entry{}, chunk(1, "a"))
			refused("Write of a wrong one", got, errno)
			got, errno = shard.Commit(h, since, 1)
			refused("Commit", got, errno)
			got, errno = shard.Commit(h, since, -1)
			refused("Commit of a wrong one", got, errno)
		}
	}
}

// Sh1: who has which Since, at all few epochs: Check by the words.
func TestSincesThatMayBe(t *testing.T) {
	seen := [2]int{}
	for code := range 5 * 5 * 5 * 5 * 5 {
		n := func(place int) int { return code/place%5 - 1 }
		h := api.Holder{Fence: n(1), Now: api.Shard{Since: n(5)}}
		for place := 25; place < 5*5*5*5*5; place *= 5 {
			if since := n(place); since >= 0 {
				h.Next = append(h.Next, api.Shard{Since: since})
			}
		}
		want := api.ErrArg
		if slowMay(h) {
			want = api.OK
			seen[1]++
		} else {
			seen[0]++
		}
		if got := shard.Check(h); got != want {
			t.Errorf("%+v: error %d, want %d", h, got, want)
		}
	}
	if seen[0] < 100 || seen[1] < 20 {
		t.Errorf("%v: too little was tested", seen)
	}
}
