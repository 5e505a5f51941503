package shard_test

import (
	"maps"
	"slices"
	"testing"

	"mooring/api"
	"mooring/shard"
)

// A story is a shard told by its states: the items behind each entry, from those that it
// was staged with on. What may be taken back is read off from them, and nothing is undone.
type story struct {
	place, since int
	states       []map[string]api.Chunk
	log          []api.Entry
	firm         int // entries that may not be taken back
}

// shard is what a story comes to.
func (x *story) shard() api.Shard {
	s := api.Shard{Place: x.place, Since: x.since, Log: x.log, Items: listed(x.states[len(x.log)])}
	for i := x.firm; i < len(x.log); i++ {
		was, has := x.states[i][x.log[i].Name]
		s.Undos = append(s.Undos, api.Undo{Seq: i + 1, Name: x.log[i].Name, Has: has, Was: was})
	}
	return s
}

// write goes on with an entry.
func (x *story) write(e api.Entry, c api.Chunk) {
	next := maps.Clone(x.states[len(x.log)])
	if e.Gone {
		delete(next, e.Name)
	} else if e.Code == api.OK {
		next[e.Name] = c
	}
	x.log, x.states = append(slices.Clone(x.log), e), append(slices.Clone(x.states), next)
}

// upTo is the story up to an entry.
func (x *story) upTo(head int) *story {
	out := *x
	out.log, out.states = x.log[:head], x.states[:head+1]
	return &out
}

// A world is a holder told by stories: one of each interval that stands.
type world struct {
	fence, now int
	stands     map[int]*story
}

// holder is what a world comes to.
func (w *world) holder() api.Holder {
	h := api.Holder{Fence: w.fence}
	for _, since := range slices.Sorted(maps.Keys(w.stands)) {
		if since == w.now {
			h.Now = w.stands[since].shard()
		} else {
			h.Next = append(h.Next, w.stands[since].shard())
		}
	}
	return h
}

// activate is the world behind Activate, and whether it is done.
func (w *world) activate(since int) bool {
	if since < w.fence || w.stands[since] == nil {
		return false
	}
	w.fence, w.now = since, since
	maps.DeleteFunc(w.stands, func(k int, _ *story) bool { return k < since })
	return true
}

// deed does one call of a stream to a holder, and to the world if the call is done; it
// tells the holder behind it.
func (w *world) deed(t *testing.T, n *numbers, h api.Holder) (api.Holder, api.Errno) {
	since := w.fence
	if n.below(6) == 0 {
		since += n.below(4) - 1
	}
	switch n.below(10) {
	case 0:
		got, errno := asks(t, h, since+n.below(2))
		if errno == api.OK {
			w.fence = got.Fence
		}
		return got, errno
	case 1, 2:
		x := w.anyStory(n, since+n.below(3))
		got, errno := stages(t, h, x.shard())
		if errno == api.OK {
			w.fence, w.stands[x.since] = x.since, x
		}
		return got, errno
	case 3:
		got, errno := activates(t, h, since)
		if w.activate(since) != (errno == api.OK) {
			t.Fatalf("Activate: error %d", errno)
		}
		return got, errno
	case 4:
		return w.commit(t, n, h, since)
	}
	return w.write(t, n, h, since)
}

// anyStory is a story for a stage: an empty one, or one that stands, as far as it may be
// taken back, for another interval.
func (w *world) anyStory(n *numbers, since int) *story {
	x := &story{states: []map[string]api.Chunk{{}}}
	if keys := slices.Sorted(maps.Keys(w.stands)); len(keys) > 0 && n.below(3) > 0 {
		x = w.stands[keys[n.below(len(keys))]]
		x = x.upTo(x.firm + n.below(len(x.log)-x.firm+1))
	}
	out := *x
	out.since, out.place = since, n.below(32)
	return &out
}

// commit is a Commit of a stream.
func (w *world) commit(t *testing.T, n *numbers, h api.Holder, since int) (api.Holder, api.Errno) {
	head := n.below(12)
	got, errno := commits(t, h, since, head)
	if errno == api.OK {
		w.activate(since)
		w.stands[since].firm = max(w.stands[since].firm, head)
	}
	return got, errno
}

// write is a Write of a stream: mostly of the next entry.
func (w *world) write(t *testing.T, n *numbers, h api.Holder, since int) (api.Holder, api.Errno) {
	seq := 1 + n.below(3)
	if x := w.stands[since]; x != nil && n.below(8) > 0 {
		seq = len(x.log) + 1
	}
	e, c := n.entry(seq), n.chunk()
	if x := w.stands[since]; x != nil && n.below(6) == 0 && len(x.log) > 0 {
		e = x.log[n.below(len(x.log))]
	}
	got, errno := writes(t, h, since, e, c)
	if errno == api.OK || errno == api.ErrBad || errno == api.ErrWait {
		w.activate(since)
	}
	if x := w.stands[since]; errno == api.OK && e.Seq == len(x.log)+1 {
		x.write(e, c)
	}
	return got, errno
}

// Sh1 to Sh4: long lives, step by step: what is held is what the stories come to; each
// entry may be taken back as far as it was not committed, and leaves the items that were;
// what may be stays so; Fence never falls.
func TestLives(t *testing.T) {
	told := map[api.Errno]int{}
	taken := 0
	for seed := range 120 {
		n := numbers(seed)
		w := &world{stands: map[int]*story{}}
		h := api.Holder{}
		for range 150 {
			fence := h.Fence
			got, errno := w.deed(t, &n, h)
			told[errno]++
			if shard.Check(got) != api.OK || got.Fence < fence {
				t.Fatalf("behind %+v is %+v", h, got)
			}
			if text(got) != text(w.holder()) || !shard.Same(got, w.holder()) {
				t.Fatalf("error %d: %+v, and not %+v", errno, got, w.holder())
			}
			if !shard.Same(h, got) != (text(h) != text(got)) {
				t.Fatalf("Same of %+v and %+v", h, got)
			}
			h = got
			for since, x := range w.stands {
				taken += x.takenBack(t, h, since)
			}
		}
	}
	for errno, least := range map[api.Errno]int{api.OK: 5000, api.ErrArg: 300, api.ErrOld: 300, api.ErrNone: 300, api.ErrBad: 200, api.ErrWait: 100} {
		if told[errno] < least {
			t.Errorf("error %d was told %d times: too little was tested", errno, told[errno])
		}
	}
	if taken < 10000 {
		t.Errorf("%d were taken back: too little was tested", taken)
	}
}

// takenBack looks at what a holder tells of a story's interval, and at all heads to which
// it may be taken back; it tells how many there are.
func (x *story) takenBack(t *testing.T, h api.Holder, since int) int {
	t.Helper()
	s, ok := shard.At(h, since)
	if !ok || text(s) != text(x.shard()) || shard.Head(s) != len(x.log) {
		t.Fatalf("At %d: %+v, %v", since, s, ok)
	}
	for name, c := range x.states[len(x.log)] {
		has(t, s, name, c)
	}
	for head := x.firm; head <= len(x.log); head++ {
		got, errno := shard.Back(s, head)
		if errno != api.OK || text(got) != text(x.upTo(head).shard()) || shard.CheckShard(got) != api.OK {
			t.Fatalf("Back %d of %+v: error %d, %+v", head, s, errno, got)
		}
	}
	if _, errno := shard.Back(s, x.firm-1); x.firm > 0 && errno != api.ErrNone {
		t.Fatalf("Back %d of %+v: error %d", x.firm-1, s, errno)
	}
	return len(x.log) - x.firm
}

// Sh4: from shards whose Undos tell of no life that was, too, an entry that is done and
// taken back leaves the items that were.
func TestDoneAndTakenBack(t *testing.T) {
	n := numbers(5)
	done := 0
	for range 4000 {
		s := n.anyShard(1 + n.below(9))
		e, c := n.entry(shard.Head(s)+1), n.chunk()
		h, errno := writes(t, active(s), s.Since, e, c)
		if errno != api.OK {
			continue
		}
		done++
		got, errno := shard.Back(h.Now, shard.Head(s))
		if errno != api.OK || text(got) != text(s) {
			t.Fatalf("%+v is done and taken back: error %d, %+v, and not %+v", e, errno, got, s)
		}
		for head := range shard.Head(s) {
			backs(t, s, head)
		}
	}
	if done < 3000 {
		t.Errorf("%d were done: too little was tested", done)
	}
}

// anyShard is one that may be, of entries and Undos of any kind.
func (n *numbers) anyShard(since int) api.Shard {
	s := api.Shard{Place: n.below(32), Since: since}
	items := map[string]api.Chunk{}
	for range n.below(5) {
		items[[]string{"a", "B", "b", "ab", "é", "日"}[n.below(6)]] = chunk(n.below(50), "item")
	}
	s.Items = listed(items)
	for seq := 1; seq <= n.below(7); seq++ {
		if e := n.entry(seq); slowEntryMay(e) {
			s.Log = append(s.Log, e)
			continue
		}
		break
	}
	for _, e := range s.Log[n.below(len(s.Log)+1):] {
		u := api.Undo{Seq: e.Seq, Name: e.Name, Has: n.below(2) == 0}
		if u.Has {
			u.Was = chunk(n.below(50), "undo")
		}
		s.Undos = append(s.Undos, u)
	}
	return s
}
