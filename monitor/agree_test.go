package monitor_test

import (
	"slices"
	"testing"

	"mooring/api"
)

// kinds is runs of several habits: most comes; much is lost; much comes late and twice;
// many crash; all tick often, and come into each other's way.
func kinds() []habits {
	return []habits{
		common,
		{ask: 4, tick: 6, first: 50, any: 10, drop: 14, twice: 1, late: 1, crash: 0, calm: 1},
		{ask: 4, tick: 3, first: 10, any: 40, drop: 1, twice: 5, late: 6, crash: 1, calm: 1},
		{ask: 8, tick: 6, first: 50, any: 6, drop: 1, twice: 1, late: 1, crash: 4, calm: 1},
		{ask: 6, tick: 10, first: 50, any: 10, drop: 2, twice: 1, late: 1, crash: 1, calm: 1},
	}
}

// Mo1, Mo2: monitors are asked, tick, receive and crash in many orders, with messages
// lost, doubled, late and out of order: behind every step what a monitor tells is as
// its decrees say, and of each epoch it is what every other one tells, now and ever.
func TestManyRuns(t *testing.T) {
	t.Parallel()
	n := numbers(14)
	told := map[api.Errno]int{}
	done := map[int]int{}
	for _, size := range sizes {
		for k, h := range kinds() {
			epochs := 0
			for range 4 {
				w := peopled(t, size)
				for range 250 * size {
					w.act(n.below, h)
				}
				for id := range w.mons {
					w.look(id)
				}
				epochs += len(w.changes)
				for e, count := range w.told {
					told[e] += count
				}
				for _, c := range w.changes {
					done[c.Kind]++
				}
			}
			if epochs < 15 {
				t.Errorf("of %d monitors runs of kind %d had %d epochs alone", size, k, epochs)
			}
		}
	}
	for _, e := range []api.Errno{api.OK, api.ErrArg, api.ErrNone, api.ErrSame} {
		if told[e] < 50 {
			t.Errorf("error %d was told %d times alone", e, told[e])
		}
	}
	for kind := 1; kind < api.ChangeKinds; kind++ {
		if done[kind] < 100 {
			t.Errorf("changes of kind %d were done %d times alone", kind, done[kind])
		}
	}
}

// Mo1, Mo2: so it is with monitors that are asked seldom what they have: they tell the
// same as those that are asked all the while.
func TestManyRunsSeldomLookedAt(t *testing.T) {
	t.Parallel()
	n := numbers(15)
	for _, size := range sizes {
		for k, h := range kinds() {
			epochs := 0
			for range 4 {
				w := peopled(t, size)
				w.blind = true
				for range 250 * size {
					w.act(n.below, h)
					if n.below(40) == 0 {
						w.look(n.below(size))
					}
				}
				for id := range w.mons {
					w.look(id)
				}
				epochs += len(w.changes)
			}
			if epochs < 15 {
				t.Errorf("of %d monitors runs of kind %d had %d epochs alone", size, k, epochs)
			}
		}
	}
}

// Mo2: behind every step every monitor has the same map of each epoch that it has, not
// only the one with which something was done.
func TestAllMapsBehindEveryStep(t *testing.T) {
	t.Parallel()
	n := numbers(16)
	for _, size := range sizes {
		epochs := 0
		for _, h := range kinds() {
			w := peopled(t, size)
			for range 60 * (size + 1) {
				w.act(n.below, h)
				for id, x := range w.mons {
					w.look(id)
					for epoch := range x.Epoch() + 1 {
						w.holds(id, epoch)
					}
				}
			}
			epochs += len(w.changes)
		}
		if epochs < 25 {
			t.Errorf("of %d monitors all runs had %d epochs alone", size, epochs)
		}
	}
}

// Mo2: a long run, in which each one is cut off and crashes many times.
func TestALongRun(t *testing.T) {
	t.Parallel()
	n := numbers(5)
	w := peopled(t, 5)
	for range 10000 {
		w.act(n.below, common)
	}
	if len(w.changes) < 50 {
		t.Errorf("%d epochs alone", len(w.changes))
	}
	for id, x := range w.mons {
		for epoch := range x.Epoch() + 1 {
			w.holds(id, epoch)
		}
	}
}

// Mo2: with half of the monitors, or fewer, there is never another map.
func TestTooFewDecideNothing(t *testing.T) {
	for _, size := range sizes[1:] {
		w := newWorld(t, size)
		awake := w.all()[:size/2]
		for i := range 20 {
			w.ask(awake[i%len(awake)], add(i))
			w.rounds(2, awake...)
		}
		for id, x := range w.mons {
			if x.Epoch() != 0 || len(x.Changes()) != 0 {
				t.Errorf("%d of %d: epoch %d, changes %v", id, size, x.Epoch(), x.Changes())
			}
		}
	}
}

// Mo2: two halves that meet in one alone have one list of maps: a change that the one
// half did is there ahead of all that the other half does.
func TestHalvesThatMeet(t *testing.T) {
	for _, size := range []int{3, 5, 7} {
		w := newWorld(t, size)
		most := size/2 + 1
		low, high := w.all()[:most], w.all()[size-most:]
		for i := range 6 {
			w.ask(low[0], add(i))
			w.rounds(8, low...)
			w.rest(low...)
			w.ask(high[most-1], add(i)) // it is there
			w.ask(high[most-1], weight(i, 1))
			w.rounds(8, high...)
			w.rest(high...)
			if got := w.mons[high[0]].Epoch(); got != 2*i+2 {
				t.Fatalf("of %d: epoch %d behind %d", size, got, 2*i+2)
			}
		}
	}
}

// Mo2: two that are asked for changes that are in each other's way at once: one of them
// is done, the same one everywhere.
func TestOneOfTwo(t *testing.T) {
	n := numbers(7)
	first := 0
	for _, size := range sizes[1:] {
		for range 20 {
			w := newWorld(t, size)
			a := api.Change{Kind: api.ChangeAdd, Osd: api.Osd{Id: 1, Host: 1}}
			b := api.Change{Kind: api.ChangeAdd, Osd: api.Osd{Id: 1, Host: 2}}
			w.ask(0, a)
			w.ask(size-1, b)
			for range 10 * size {
				w.act(n.below, habits{tick: 2, first: 10, any: 20, drop: 4})
			}
			w.rounds(20, w.all()...)
			w.rest(w.all()...)
			l := w.mons[0].Changes()
			if len(l) != 1 || l[0] != a && l[0] != b {
				t.Fatalf("of %d: changes %v", size, l)
			}
			if l[0] == a {
				first++
			}
		}
	}
	if first < 10 || first > 110 {
		t.Errorf("of 120 %d were the first one's", first)
	}
}

// Mo1, Mo2: each one crashes between every message and its answer: no map is turned.
func TestACrashBehindEachMessage(t *testing.T) {
	for _, size := range []int{2, 3, 5, 7} {
		epochs := 0
		for which := range size {
			w := newWorld(t, size)
			for i := range 24 {
				w.ask((which+1)%size, add(2*i))
				w.ask(which, add(2*i+1))
				for id := range size {
					w.tick(id)
				}
				for len(w.way) > 0 {
					p := w.take(0)
					w.give(p)
					if p.to == which {
						w.crash(which)
					}
				}
			}
			epochs += len(w.changes)
		}
		if epochs < 20 {
			t.Errorf("of %d: %d epochs alone", size, epochs)
		}
	}
}

// Mo2: all crash at once, at each place of a run: the maps of then are there, and what
// is asked for later goes behind them.
func TestAllCrashAtOnce(t *testing.T) {
	quiet := common
	quiet.crash = 0
	late := api.Change{Kind: api.ChangeAdd, Osd: api.Osd{Id: 500, Host: 50}}
	for steps := range 100 {
		n := numbers(9)
		w := newWorld(t, 3)
		for range steps {
			w.act(n.below, quiet)
		}
		was := make([][]api.Change, 3)
		for id, x := range w.mons {
			w.crash(id)
			was[id] = x.Changes()
		}
		w.ask(steps%3, late)
		w.rounds(10, 0, 1, 2)
		w.rest(0, 1, 2)
		for id, x := range w.mons {
			got := x.Changes()
			if !slices.Equal(got[:len(was[id])], was[id]) || got[len(got)-1] != late {
				t.Fatalf("%d had %v, and has %v", id, was[id], got)
			}
		}
	}
}

// R4: the same calls tell the same, also what is sent.
func TestAlwaysTheSame(t *testing.T) {
	for _, size := range sizes {
		run := func() *world {
			n := numbers(77)
			w := newWorld(t, size)
			for range 400 {
				w.act(n.below, common)
			}
			return w
		}
		first := run()
		for range 2 {
			if next := run(); !slices.Equal(next.sent, first.sent) || !slices.Equal(next.changes, first.changes) {
				t.Fatalf("of %d: two runs are unlike", size)
			}
		}
	}
}

// Mo1, Mo2: whatever a list of bytes lets be done.
func FuzzAgreement(f *testing.F) {
	f.Add([]byte{2, 0, 0, 1, 0, 1, 2, 3, 4, 5, 6, 7, 8, 9, 10, 11, 12, 13, 14})
	f.Add([]byte{6, 12, 3, 2, 9, 12, 7, 7, 9, 9, 1, 2, 3, 4, 5, 6, 7, 8, 9, 200, 201, 30, 31})
	f.Fuzz(func(t *testing.T, b []byte) {
		if len(b) > 600 {
			return
		}
		next := func(limit int) int {
			if len(b) == 0 {
				return 0
			}
			x := int(b[0]) % limit
			b = b[1:]
			return x
		}
		w := newWorld(t, 1+next(api.MaxMons))
		for len(b) > 0 {
			w.act(next, common)
		}
	})
}
