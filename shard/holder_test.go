package shard_test

import (
	"testing"

	"mooring/api"
	"mooring/shard"
)

// small are all holders whose Fence is at most a number, and whose shards, of few entries,
// are of Since below it.
func small(most int) []api.Holder {
	var out []api.Holder
	for fence := 0; fence <= most; fence++ {
		for now := 0; now <= fence; now++ {
			for set := range 1 << (fence - now) {
				h := api.Holder{Fence: fence, Now: few(now)}
				for i := range fence - now {
					if set>>i&1 == 1 {
						h.Next = append(h.Next, few(now+1+i))
					}
				}
				out = append(out, h)
			}
		}
	}
	return out
}

// few is a shard of three entries, or two, of which the last one may be taken back, that
// tells by its Place and its items which one it is; of 0 it is none.
func few(since int) api.Shard {
	if since == 0 {
		return api.Shard{}
	}
	s := api.Shard{
		Place: since % 32,
		Since: since,
		Items: []api.Item{{Name: "a", Chunk: chunk(since, "few")}, {Name: "c", Chunk: chunk(2, "c")}},
		Log:   []api.Entry{entry(1, "a", since%100), gone(2, "b"), entry(3, "c", 2)}[:2+since%2],
	}
	last := s.Log[len(s.Log)-1]
	s.Undos = []api.Undo{{Seq: last.Seq, Name: last.Name, Has: true, Was: chunk(1, "was")}}
	return s
}

// Sh2, by hand: Ask lets Fence rise, and never fall.
func TestAskByHand(t *testing.T) {
	h := full()
	for _, since := range []int{9, 10, 11, 500, 500, 1 << 20, 1 << 20} {
		got, errno := shard.Ask(h, since)
		if errno != api.OK || got.Fence != since {
			t.Fatalf("Ask %d: error %d, %+v", since, errno, got)
		}
		got.Fence = h.Fence
		if text(got) != text(h) {
			t.Fatalf("Ask %d turned more than Fence: %+v", since, got)
		}
		h.Fence = since
	}
	for _, since := range []int{1, 9, 1<<20 - 1} {
		if got, errno := shard.Ask(h, since); errno != api.ErrOld || text(got) != text(h) {
			t.Errorf("Ask %d: error %d, %+v", since, errno, got)
		}
	}
	for _, since := range []int{0, -1, 1<<20 + 1} {
		if got, errno := shard.Ask(h, since); errno != api.ErrArg || text(got) != text(h) {
			t.Errorf("Ask %d: error %d, %+v", since, errno, got)
		}
	}
}

// Sh2, Sh3: Ask and Activate of all small holders, and at all edges.
func TestAskAndActivate(t *testing.T) {
	told := map[api.Errno]int{}
	for _, h := range append(small(5), full(), standing(1, 64), standing(1<<20-63, 64)) {
		for _, since := range append(wild(), 7, 8, 9, 10, 1<<20-2, 1<<20-63, 1<<20-64) {
			asks(t, h, since)
			_, errno := activates(t, h, since)
			told[errno]++
		}
	}
	for _, errno := range []api.Errno{api.OK, api.ErrArg, api.ErrOld, api.ErrNone} {
		if told[errno] < 50 {
			t.Errorf("error %d was told %d times: too little was tested", errno, told[errno])
		}
	}
}

// Sh3, by hand: the Next that is activated is Now, and no elder one is left.
func TestActivateByHand(t *testing.T) {
	h := full()
	for _, since := range []int{3, 5} {
		if got, errno := shard.Activate(h, since); errno != api.ErrOld || text(got) != text(h) {
			t.Errorf("Activate %d: error %d, %+v", since, errno, got)
		}
	}
	if got, errno := shard.Activate(h, 10); errno != api.ErrNone || text(got) != text(h) {
		t.Errorf("Activate 10: error %d, %+v", errno, got)
	}
	got, errno := shard.Activate(h, 9)
	want := api.Holder{Fence: 9, Now: h.Next[1]}
	if errno != api.OK || text(got) != text(want) {
		t.Fatalf("Activate 9: error %d, %+v, and not %+v", errno, got, want)
	}
	if again, errno := shard.Activate(got, 9); errno != api.OK || text(again) != text(want) {
		t.Errorf("Activate 9 again: error %d, %+v", errno, again)
	}
	fenced, _ := shard.Ask(got, 10)
	if again, errno := shard.Activate(fenced, 9); errno != api.ErrOld || text(again) != text(fenced) {
		t.Errorf("Activate 9 behind Ask: error %d, %+v", errno, again)
	}
}

// Sh2, by hand: a shard that is staged stands behind the others, or in the place of the
// one of its Since.
func TestStageByHand(t *testing.T) {
	h := full()
	got, errno := shard.Stage(h, few(12))
	want := api.Holder{Fence: 12, Now: h.Now, Next: []api.Shard{h.Next[0], h.Next[1], few(12)}}
	if errno != api.OK || text(got) != text(want) {
		t.Fatalf("Stage: error %d, %+v, and not %+v", errno, got, want)
	}
	other := few(12)
	other.Place, other.Items, other.Log, other.Undos = 30, nil, nil, nil
	want.Next[2] = other
	got, errno = shard.Stage(got, other)
	if errno != api.OK || text(got) != text(want) {
		t.Fatalf("Stage in its place: error %d, %+v, and not %+v", errno, got, want)
	}
	for _, since := range []int{3, 5, 9, 11} {
		if again, errno := shard.Stage(got, few(since)); errno != api.ErrOld || text(again) != text(want) {
			t.Errorf("Stage of %d: error %d, %+v", since, errno, again)
		}
	}
}

// Sh2: Stage of all small holders: Fence, Now and what stands by.
func TestStage(t *testing.T) {
	told := map[api.Errno]int{}
	for _, h := range append(small(5), full(), standing(1<<20-63, 64), standing(1<<20-64, 64)) {
		for _, since := range append(wild(), 7, 8, 9, 10, 1<<20-2, 1<<20-64, 1<<20-65) {
			s := few(7)
			s.Since = since
			_, errno := stages(t, h, s)
			told[errno]++
			_, errno = stages(t, h, api.Shard{Since: since})
			told[errno]++
		}
	}
	for _, errno := range []api.Errno{api.OK, api.ErrArg, api.ErrOld} {
		if told[errno] < 50 {
			t.Errorf("error %d was told %d times: too little was tested", errno, told[errno])
		}
	}
}

// Sh2: Stage of what is of Now's Since: ErrOld, also where Fence is no higher.
func TestStageOfNow(t *testing.T) {
	h := api.Holder{Fence: 3, Now: wide(3)}
	if got, errno := stages(t, h, few(3)); errno != api.ErrOld || text(got) != text(h) {
		t.Errorf("error %d, %+v", errno, got)
	}
	if got, errno := stages(t, h, few(4)); errno != api.OK || len(got.Next) != 1 || got.Fence != 4 {
		t.Errorf("error %d, %+v", errno, got)
	}
}

// Sh2: Stage of shards at the edges, and of those that may not be.
func TestStageOfAnyShard(t *testing.T) {
	for _, since := range []int{9, 10, 1 << 20} {
		for _, x := range goodShards() {
			got, errno := stages(t, full(), x.turned(since))
			if staged, ok := shard.At(got, since); errno != api.OK || !ok || text(staged) != text(x.turned(since)) {
				t.Errorf("%s: error %d", x.what, errno)
			}
		}
		// ErrArg is ahead of ErrOld, and beside it is the holder itself.
		for _, x := range badShards() {
			for _, h := range []api.Holder{full(), {}, {Fence: 1 << 20, Now: wide(1 << 20)}, standing(1, 64)} {
				if got, errno := shard.Stage(h, x.turned(since)); errno != api.ErrArg || text(got) != text(h) {
					t.Errorf("%s: error %d, %+v", x.what, errno, got)
				}
			}
		}
	}
	if got, errno := stages(t, full(), api.Shard{}); errno != api.ErrArg || text(got) != text(full()) {
		t.Errorf("a shard that is none: error %d, %+v", errno, got)
	}
}

// Sh2: 64 Next are full, but for one of a Since that is there.
func TestStageWhereItIsFull(t *testing.T) {
	h := standing(11, 63)
	h, errno := stages(t, h, few(80))
	if errno != api.OK || len(h.Next) != 64 {
		t.Fatalf("the 64th: error %d, %d Next", errno, len(h.Next))
	}
	for since, want := range map[int]api.Errno{
		0: api.ErrArg, 1<<20 + 1: api.ErrArg, 10: api.ErrOld, 11: api.ErrOld, 79: api.ErrOld,
		80: api.OK, 81: api.ErrFull, 1 << 20: api.ErrFull,
	} {
		s := wide(5)
		s.Since = since
		got, errno := stages(t, h, s)
		if errno != want || len(got.Next) != 64 {
			t.Errorf("Stage of %d: error %d, want %d, %d Next", since, errno, want, len(got.Next))
		}
		if staged, _ := shard.At(got, 80); since == 80 && text(staged) != text(s) {
			t.Errorf("in its place is %+v", staged)
		}
	}
	// Fence alone does not make room, and Activate does.
	fenced, _ := asks(t, h, 90)
	if got, errno := stages(t, fenced, few(90)); errno != api.ErrFull || text(got) != text(fenced) {
		t.Errorf("behind Ask: error %d", errno)
	}
	active, errno := activates(t, h, 80)
	if errno != api.OK || len(active.Next) != 0 || active.Now.Since != 80 {
		t.Fatalf("Activate: error %d, %d Next", errno, len(active.Next))
	}
	if got, errno := stages(t, active, few(81)); errno != api.OK || len(got.Next) != 1 {
		t.Errorf("behind Activate: error %d", errno)
	}
}

// Sh1, Sh3: 64 stand by behind Now, and each of them is told.
func TestSixtyFourStandBy(t *testing.T) {
	h := api.Holder{Fence: 4, Now: few(4)}
	for i := range 64 {
		got, errno := stages(t, h, few(5+3*i))
		if errno != api.OK || len(got.Next) != i+1 || got.Fence != 5+3*i {
			t.Fatalf("Stage of %d: error %d", 5+3*i, errno)
		}
		h = got
	}
	info := shard.Info(h, 1, 2)
	for i := range 64 {
		since := 5 + 3*i
		if s, ok := shard.At(h, since); !ok || text(s) != text(few(since)) || info.Next[i] != (api.Staged{Since: since, Head: 2 + since%2}) {
			t.Errorf("of %d: %+v, %v, %+v", since, s, ok, info.Next[i])
		}
	}
}
