package shard_test

import (
	"fmt"
	"maps"
	"math"
	"slices"
	"strings"
	"testing"

	"mooring/api"
	"mooring/name"
	"mooring/shard"
)

// text is all that a holder, a shard, an info or a chunk tells: nil and empty lists look
// alike, and nothing else does, as long as names have no blanks.
func text(x any) string { return fmt.Sprintf("%+v", x) }

// chunk is one of some bytes.
func chunk(size int, data string) api.Chunk {
	sum := uint32(size)
	for _, b := range []byte(data) {
		sum = sum*31 + uint32(b)
	}
	return api.Chunk{Size: size, Data: []byte(data), Sum: sum}
}

// clonedChunk, clonedShard and cloned are in memory of their own.
func clonedChunk(c api.Chunk) api.Chunk {
	c.Data = append([]byte(nil), c.Data...)
	return c
}

func clonedShard(s api.Shard) api.Shard {
	s.Items = append([]api.Item(nil), s.Items...)
	s.Log = append([]api.Entry(nil), s.Log...)
	s.Undos = append([]api.Undo(nil), s.Undos...)
	for i := range s.Items {
		s.Items[i].Chunk = clonedChunk(s.Items[i].Chunk)
	}
	for i := range s.Undos {
		s.Undos[i].Was = clonedChunk(s.Undos[i].Was)
	}
	return s
}

func cloned(h api.Holder) api.Holder {
	h.Now = clonedShard(h.Now)
	h.Next = append([]api.Shard(nil), h.Next...)
	for i := range h.Next {
		h.Next[i] = clonedShard(h.Next[i])
	}
	return h
}

// slowChunkMay and those below it go by the chapter's words, and by what is wrong.
func slowChunkMay(c api.Chunk) bool {
	wrong := c.Size < 0 || c.Size > 4096 || len(c.Data) > 4096
	return !wrong
}

func slowEntryMay(e api.Entry) bool {
	switch {
	case e.Seq < 1 || e.Seq > 4096:
	case e.Key.Client < 0 || e.Key.Client > 2147483647:
	case e.Key.Seq < 0 || e.Key.Seq > 2147483647:
	case name.Check(e.Name) != 0:
	case e.Size < 0 || e.Size > 4096:
	case e.Code < 0 || e.Code > 255:
	case e.Code != 0 && e.Gone:
	case e.Code != 0 && e.Size != 0:
	case e.Gone && e.Size != 0:
	default:
		return true
	}
	return false
}

func slowShardMay(s api.Shard) bool {
	if s.Since == 0 {
		return text(s) == text(api.Shard{})
	}
	wrong := s.Since < 0 || s.Since > 1048576 || s.Place < 0 || s.Place > 31
	var names []string
	for _, x := range s.Items {
		wrong = wrong || name.Check(x.Name) != 0 || !slowChunkMay(x.Chunk)
		names = append(names, x.Name)
	}
	wrong = wrong || !slices.Equal(names, slices.Sorted(maps.Keys(tallied(names))))
	for i, e := range s.Log {
		wrong = wrong || !slowEntryMay(e) || e.Seq-1 != i
	}
	for i, u := range s.Undos {
		// The last Undo is of the last entry, the one ahead of it of the one ahead of that.
		at := len(s.Log) - (len(s.Undos) - i)
		wrong = wrong || at < 0 || u.Seq != s.Log[at].Seq || u.Name != s.Log[at].Name || !slowChunkMay(u.Was)
		wrong = wrong || !u.Has && text(u.Was) != text(api.Chunk{})
	}
	return !wrong
}

// tallied is how often there is each of some texts.
func tallied(l []string) map[string]int {
	out := map[string]int{}
	for _, s := range l {
		out[s]++
	}
	return out
}

func slowMay(h api.Holder) bool {
	wrong := h.Fence < 0 || h.Fence > 1048576 || !slowShardMay(h.Now) || h.Now.Since > h.Fence || len(h.Next) > 64
	for i, s := range h.Next {
		wrong = wrong || !slowShardMay(s) || s.Since <= h.Now.Since || s.Since > h.Fence
		for _, elder := range h.Next[:i] {
			wrong = wrong || elder.Since >= s.Since
		}
	}
	return !wrong
}

// slowAsk and those below it tell what a call should, by the chapter's words, error by
// error.
func slowAsk(h api.Holder, since int) (api.Holder, api.Errno) {
	if !slowMay(h) {
		return api.Holder{}, api.ErrArg
	}
	out := cloned(h)
	switch {
	case since < 1 || since > 1048576:
		return out, api.ErrArg
	case since < h.Fence:
		return out, api.ErrOld
	}
	out.Fence = since
	return out, api.OK
}

func slowStage(h api.Holder, s api.Shard) (api.Holder, api.Errno) {
	if !slowMay(h) {
		return api.Holder{}, api.ErrArg
	}
	out := cloned(h)
	others := slices.DeleteFunc(cloned(h).Next, func(x api.Shard) bool { return x.Since == s.Since })
	switch {
	case !slowShardMay(s) || s.Since == 0:
		return out, api.ErrArg
	case s.Since < h.Fence || s.Since <= h.Now.Since:
		return out, api.ErrOld
	case len(others) == 64:
		return out, api.ErrFull
	}
	out.Fence = s.Since
	out.Next = append(others, clonedShard(s))
	slices.SortFunc(out.Next, func(a, b api.Shard) int { return a.Since - b.Since })
	return out, api.OK
}

func slowActivate(h api.Holder, since int) (api.Holder, api.Errno) {
	out, errno := slowAsk(h, since)
	if errno != api.OK {
		return out, errno
	}
	stand := append([]api.Shard{out.Now}, out.Next...)
	at := slices.IndexFunc(stand, func(s api.Shard) bool { return s.Since == since })
	if at < 0 {
		return cloned(h), api.ErrNone
	}
	out.Now = stand[at]
	out.Next = slices.DeleteFunc(out.Next, func(s api.Shard) bool { return s.Since <= since })
	return out, api.OK
}

func slowWrite(h api.Holder, since int, e api.Entry, c api.Chunk) (api.Holder, api.Errno) {
	out, errno := slowActivate(h, since)
	if errno != api.OK {
		return out, errno
	}
	if !slowEntryMay(e) || !slowChunkMay(c) {
		return cloned(h), api.ErrArg
	}
	for _, x := range out.Now.Log {
		if x.Seq == e.Seq && x == e {
			return out, api.OK
		}
		if x.Seq == e.Seq {
			return out, api.ErrBad
		}
	}
	if e.Seq != len(out.Now.Log)+1 {
		return out, api.ErrWait
	}
	out.Now = slowDone(out.Now, e, c)
	return out, api.OK
}

func slowCommit(h api.Holder, since, head int) (api.Holder, api.Errno) {
	out, errno := slowActivate(h, since)
	if errno != api.OK {
		return out, errno
	}
	if head < 0 || head > len(out.Now.Log) {
		return cloned(h), api.ErrArg
	}
	var left []api.Undo
	for _, u := range out.Now.Undos {
		if u.Seq > head {
			left = append(left, u)
		}
	}
	out.Now.Undos = left
	return out, api.OK
}

// slowDone is a shard with an entry more, by a map of its items.
func slowDone(s api.Shard, e api.Entry, c api.Chunk) api.Shard {
	s = clonedShard(s)
	items := itemsOf(s)
	was, has := items[e.Name]
	s.Undos = append(s.Undos, api.Undo{Seq: e.Seq, Name: e.Name, Has: has, Was: was})
	s.Log = append(s.Log, e)
	switch {
	case e.Code != api.OK:
	case e.Gone:
		delete(items, e.Name)
	default:
		items[e.Name] = c
	}
	s.Items = listed(items)
	return clonedShard(s)
}

// slowBack is a shard of which all entries above head are taken back, by a map of its
// items.
func slowBack(s api.Shard, head int) (api.Shard, api.Errno) {
	if !slowShardMay(s) || head < 0 || head > len(s.Log) {
		return api.Shard{}, api.ErrArg
	}
	s = clonedShard(s)
	items := itemsOf(s)
	for seq := len(s.Log); seq > head; seq-- {
		at := slices.IndexFunc(s.Undos, func(u api.Undo) bool { return u.Seq == seq })
		if at < 0 {
			return api.Shard{}, api.ErrNone
		}
		if u := s.Undos[at]; u.Has {
			items[u.Name] = u.Was
		} else {
			delete(items, u.Name)
		}
	}
	s.Undos = slices.DeleteFunc(s.Undos, func(u api.Undo) bool { return u.Seq > head })
	s.Log = s.Log[:head]
	s.Items = listed(items)
	return clonedShard(s), api.OK
}

// itemsOf is a shard's items by their names.
func itemsOf(s api.Shard) map[string]api.Chunk {
	out := map[string]api.Chunk{}
	for _, x := range s.Items {
		out[x.Name] = x.Chunk
	}
	return out
}

// listed is items by rising names.
func listed(items map[string]api.Chunk) []api.Item {
	var out []api.Item
	for _, n := range slices.Sorted(maps.Keys(items)) {
		out = append(out, api.Item{Name: n, Chunk: items[n]})
	}
	return out
}

// The deeds are what each call that tells a holder tells, and what it should.
func asks(t testing.TB, h api.Holder, since int) (api.Holder, api.Errno) {
	t.Helper()
	got, errno := shard.Ask(h, since)
	want, wrong := slowAsk(h, since)
	return held(t, fmt.Sprintf("Ask %d", since), h, got, want, errno, wrong)
}

func stages(t testing.TB, h api.Holder, s api.Shard) (api.Holder, api.Errno) {
	t.Helper()
	got, errno := shard.Stage(h, s)
	want, wrong := slowStage(h, s)
	return held(t, "Stage "+text(s), h, got, want, errno, wrong)
}

func activates(t testing.TB, h api.Holder, since int) (api.Holder, api.Errno) {
	t.Helper()
	got, errno := shard.Activate(h, since)
	want, wrong := slowActivate(h, since)
	return held(t, fmt.Sprintf("Activate %d", since), h, got, want, errno, wrong)
}

func writes(t testing.TB, h api.Holder, since int, e api.Entry, c api.Chunk) (api.Holder, api.Errno) {
	t.Helper()
	got, errno := shard.Write(h, since, e, c)
	want, wrong := slowWrite(h, since, e, c)
	return held(t, fmt.Sprintf("Write %d, %+v, %+v", since, e, c), h, got, want, errno, wrong)
}

func commits(t testing.TB, h api.Holder, since, head int) (api.Holder, api.Errno) {
	t.Helper()
	got, errno := shard.Commit(h, since, head)
	want, wrong := slowCommit(h, since, head)
	return held(t, fmt.Sprintf("Commit %d, %d", since, head), h, got, want, errno, wrong)
}

// held looks whether a call told what it should.
func held(t testing.TB, what string, h, got, want api.Holder, errno, wrong api.Errno) (api.Holder, api.Errno) {
	t.Helper()
	if text(got) != text(want) || errno != wrong {
		t.Fatalf("%s of\n%+v:\n%+v, error %d, and not\n%+v, error %d", what, h, got, errno, want, wrong)
	}
	if errno != api.OK && errno != api.ErrArg && shard.Check(got) != api.OK {
		t.Fatalf("%s: beside error %d a holder that may not be: %+v", what, errno, got)
	}
	return got, errno
}

// backs holds Back of a shard against the words.
func backs(t testing.TB, s api.Shard, head int) (api.Shard, api.Errno) {
	t.Helper()
	got, errno := shard.Back(s, head)
	want, wrong := slowBack(s, head)
	if text(got) != text(want) || errno != wrong {
		t.Fatalf("Back %d of\n%+v:\n%+v, error %d, and not\n%+v, error %d", head, s, got, errno, want, wrong)
	}
	return got, errno
}

// wild are numbers at all edges, and far beyond.
func wild() []int {
	return []int{math.MinInt, math.MinInt + 1, -1 << 40, -4096, -2, -1, 0, 1, 2, 3, 4, 5, 6, 31, 32, 63, 64, 65, 4095, 4096, 4097,
		1<<20 - 1, 1 << 20, 1<<20 + 1, 1<<31 - 1, 1 << 31, 1 << 32, 1<<32 + 1, 1<<32 + 3, math.MaxInt - 1, math.MaxInt}
}

// entry is one that is OK, of an object that is not gone.
func entry(seq int, name string, size int) api.Entry {
	return api.Entry{Seq: seq, Key: api.Key{Client: 3, Seq: seq + 10}, Name: name, Size: size}
}

// gone is one that deletes, and failed one that turns nothing.
func gone(seq int, name string) api.Entry {
	return api.Entry{Seq: seq, Key: api.Key{Client: 2, Seq: seq}, Name: name, Gone: true}
}

func failed(seq int, name string, code api.Errno) api.Entry {
	return api.Entry{Seq: seq, Key: api.Key{Client: 1, Seq: seq}, Name: name, Code: code}
}

// wide is a shard that may be, with something of each kind in it.
func wide(since int) api.Shard {
	return api.Shard{
		Place: 2,
		Since: since,
		Items: []api.Item{{Name: "a", Chunk: chunk(5, "aaaa")}, {Name: "b", Chunk: chunk(0, "")}, {Name: "c", Chunk: chunk(9, "cc")}},
		Log:   []api.Entry{entry(1, "a", 5), gone(2, "x"), failed(3, "a", api.ErrSame), entry(4, "b", 7), gone(5, "d")},
		Undos: []api.Undo{
			{Seq: 3, Name: "a", Has: true, Was: chunk(3, "old")},
			{Seq: 4, Name: "b"},
			{Seq: 5, Name: "d", Has: true, Was: chunk(4, "dddd")},
		},
	}
}

// full is a holder that may be: Now of 3, Next of 5 and 9, Fence 9.
func full() api.Holder {
	return api.Holder{Fence: 9, Now: wide(3), Next: []api.Shard{wide(5), wide(9)}}
}

// numbers is a stream of numbers that look like chance, and are always the same.
type numbers uint64

func (n *numbers) below(limit int) int {
	*n = *n*6364136223846793005 + 1442695040888963407
	return int(uint64(*n)>>33) % limit
}

// name is one of few, and now and then one that may not be.
func (n *numbers) name() string {
	if n.below(60) == 0 {
		return []string{"", "a/b", "\xff", strings.Repeat("a", 65)}[n.below(4)]
	}
	return []string{"a", "B", "b", "ab", "é", "日"}[n.below(6)]
}

// chunk is one of a stream, seldom one that may not be.
func (n *numbers) chunk() api.Chunk {
	switch n.below(40) {
	case 0:
		return api.Chunk{Size: wild()[n.below(len(wild()))]}
	case 1:
		return api.Chunk{Data: make([]byte, 4096+n.below(2))}
	case 2:
		return api.Chunk{}
	}
	data := make([]byte, n.below(6))
	for i := range data {
		data[i] = byte(n.below(256))
	}
	return chunk(n.below(100), string(data))
}

// entry is one of a stream, seldom one that may not be.
func (n *numbers) entry(seq int) api.Entry {
	e := api.Entry{Seq: seq, Key: api.Key{Client: n.below(3), Seq: n.below(9)}, Name: n.name()}
	switch n.below(5) {
	case 0:
		e.Code = api.Errno(1 + n.below(9))
	case 1:
		e.Gone = true
	default:
		e.Size = n.below(100)
	}
	switch n.below(60) {
	case 0:
		e.Size = wild()[n.below(len(wild()))]
	case 1:
		e.Key.Client = wild()[n.below(len(wild()))]
	case 2:
		e.Gone, e.Code, e.Size = n.below(2) == 0, api.Errno(n.below(2)), n.below(2)
	case 3:
		e.Key.Seq = wild()[n.below(len(wild()))]
	case 4:
		e.Code = api.Errno(wild()[n.below(len(wild()))])
	}
	return e
}
