package interval_test

import (
	"slices"
	"testing"

	"mooring/api"
	"mooring/interval"
)

// one is a map of one OSD, that has the first of two places.
func one(epoch int, o api.Osd) api.Map {
	o.Id, o.In, o.Weight = 7, true, 5
	return api.Map{Epoch: epoch, Pool: api.Pool{K: 1, M: 1, Pgs: 1}, Osds: []api.Osd{o}}
}

// up is an OSD that is Up, and down one that is not.
func up(life, boot int) api.Osd { return api.Osd{Up: true, Life: life, Boot: boot} }

func down(life, boot int) api.Osd { return api.Osd{Life: life, Boot: boot} }

// kept is the interval at which one OSD has the first place, and empty one at which
// nobody has any.
func kept(from, to, life, boot int) api.Interval {
	return api.Interval{From: from, To: to, Acting: []int{7, -1}, Lives: []int{life, 0}, Boots: []int{boot, 0}, Primary: 7}
}

func empty(from, to int) api.Interval {
	return api.Interval{From: from, To: to, Acting: []int{-1, -1}, Lives: []int{0, 0}, Boots: []int{0, 0}, Primary: -1}
}

// The chapter's example: an OSD that goes down and comes up with another life: three
// intervals.
func TestExample(t *testing.T) {
	maps := []api.Map{one(0, up(3, 1)), one(1, down(3, 1)), one(2, up(4, 1))}
	want := []api.Interval{kept(0, 0, 3, 1), empty(1, 1), kept(2, 2, 4, 1)}
	if got := check(t, maps, 0); !sameAll(got, want) {
		t.Errorf("All = %+v, want %+v", got, want)
	}
}

// In1: intervals that are plain to see, of one OSD.
func TestKnownIntervals(t *testing.T) {
	for what, known := range map[string]struct {
		osds []api.Osd
		want []api.Interval
	}{
		"one map":           {[]api.Osd{up(3, 1)}, []api.Interval{kept(9, 9, 3, 1)}},
		"one map of nobody": {[]api.Osd{down(3, 1)}, []api.Interval{empty(9, 9)}},
		"nothing turns":     {[]api.Osd{up(3, 1), up(3, 1), up(3, 1)}, []api.Interval{kept(9, 11, 3, 1)}},
		"nobody, for long":  {[]api.Osd{down(0, 0), down(0, 0)}, []api.Interval{empty(9, 10)}},
		"another life":      {[]api.Osd{up(3, 1), up(4, 1)}, []api.Interval{kept(9, 9, 3, 1), kept(10, 10, 4, 1)}},
		"an elder life":     {[]api.Osd{up(3, 1), up(2, 1)}, []api.Interval{kept(9, 9, 3, 1), kept(10, 10, 2, 1)}},
		"another boot":      {[]api.Osd{up(3, 1), up(3, 2)}, []api.Interval{kept(9, 9, 3, 1), kept(10, 10, 3, 2)}},
		"life and boot swapped": {[]api.Osd{up(3, 1), up(1, 3)},
			[]api.Interval{kept(9, 9, 3, 1), kept(10, 10, 1, 3)}},
		"the same one again": {[]api.Osd{up(3, 1), down(3, 1), up(3, 1)},
			[]api.Interval{kept(9, 9, 3, 1), empty(10, 10), kept(11, 11, 3, 1)}},
		"the same life again": {[]api.Osd{up(3, 1), up(4, 1), up(3, 1), up(3, 1)},
			[]api.Interval{kept(9, 9, 3, 1), kept(10, 10, 4, 1), kept(11, 12, 3, 1)}},
		"lives and boots of one that is down": {[]api.Osd{down(3, 1), down(4, 1), down(4, 9), down(0, 0), up(4, 9)},
			[]api.Interval{empty(9, 12), kept(13, 13, 4, 9)}},
	} {
		var maps []api.Map
		for i, o := range known.osds {
			maps = append(maps, one(9+i, o))
		}
		got, errno := interval.All(maps, 0)
		if errno != api.OK || !sameAll(got, known.want) {
			t.Errorf("%s: All = %+v, error %d, want %+v", what, got, errno, known.want)
		}
		last := known.want[len(known.want)-1]
		if got, errno := interval.Last(maps, 0); errno != api.OK || !same(got, last) {
			t.Errorf("%s: Last = %+v, error %d, want %+v", what, got, errno, last)
		}
		check(t, maps, 0)
	}
}

// In1: who goes down in any place ends an interval, and the primary is the next one.
func TestEachPlaceGoesDown(t *testing.T) {
	m := wide(api.Pool{K: 2, M: 2, Pgs: 8}, 4)
	for pg := range 8 {
		first, errno := interval.Last([]api.Map{m}, pg)
		if errno != api.OK || slices.Contains(first.Acting, -1) {
			t.Fatalf("%d: %+v, error %d", pg, first, errno)
		}
		for i, id := range first.Acting {
			got := check(t, behind(m, func(l []api.Osd) { l[id].Up = false }), pg)
			if len(got) != 2 || got[1].Acting[i] != -1 || got[1].Lives[i] != 0 || got[1].Boots[i] != 0 {
				t.Errorf("%d of %d goes down: %+v", id, pg, got)
			}
			want := first.Acting[0]
			if i == 0 {
				want = first.Acting[1]
			}
			if got[1].Primary != want {
				t.Errorf("%d of %d goes down: the primary is %d, want %d", id, pg, got[1].Primary, want)
			}
		}
	}
}

// In1: an OSD that goes down, or has another life or boot, ends an interval where it keeps
// the placement group, and no other; In, Weight, Host and Rack end those where they let
// others keep it.
func TestOthersEndNoInterval(t *testing.T) {
	m := wide(api.Pool{K: 1, M: 1, Pgs: 16}, 6)
	for pg := range 16 {
		keepers := check(t, []api.Map{m}, pg)[0].Acting
		for id := range 6 {
			for what, turn := range map[string]func(o *api.Osd){
				"Up":   func(o *api.Osd) { o.Up = false },
				"Life": func(o *api.Osd) { o.Life++ },
				"Boot": func(o *api.Osd) { o.Boot++ },
			} {
				want := 1
				if slices.Contains(keepers, id) {
					want = 2
				}
				got := check(t, behind(m, func(l []api.Osd) { turn(&l[id]) }), pg)
				if len(got) != want {
					t.Errorf("%s of %d turns, and %v keep %d: %+v", what, id, keepers, pg, got)
				}
			}
			check(t, behind(m, func(l []api.Osd) { l[id].In = false }, func(l []api.Osd) { l[id].In = true }), pg)
			check(t, behind(m, func(l []api.Osd) { l[id].Weight *= 3 }, func(l []api.Osd) { l[id].Weight = 0 }), pg)
			check(t, behind(m, func(l []api.Osd) { l[id].Rack = 99 }, func(l []api.Osd) { l[id].Host = 98 }), pg)
		}
	}
}

// In1: a place that others have is another interval, though the lives and the boots are
// alike; so are the same OSDs in other places.
func TestActingAloneEndsAnInterval(t *testing.T) {
	seen := 0
	n := numbers(3)
	for range 200 {
		p := n.anyPool()
		maps := behind(wide(p, 2+n.below(6)), func(l []api.Osd) { l[n.below(len(l))].In = false })
		for _, m := range maps {
			for i := range m.Osds {
				m.Osds[i].Life, m.Osds[i].Boot = 5, 6
			}
		}
		for pg := range p.Pgs {
			got := check(t, maps, pg)
			if len(got) == 2 && slices.Equal(got[0].Lives, got[1].Lives) && slices.Equal(got[0].Boots, got[1].Boots) {
				seen++
			}
		}
	}
	if seen < 100 {
		t.Errorf("%d intervals ended by Acting alone: too little was tested", seen)
	}
}

// In1, In2: maps led to by changes, and any others, of pools of many kinds, held against
// the chapter's words.
func TestManyMaps(t *testing.T) {
	t.Parallel()
	n := numbers(1)
	lengths := map[int]int{}
	for round := range 250 {
		p, many, length := n.anyPool(), 1+n.below(9), 1+n.below(14)
		maps := n.anyLed(p, many, length)
		if round%2 == 1 {
			maps = n.anyMaps(p, many, length)
		}
		for range 3 {
			pg := n.below(p.Pgs)
			got := check(t, maps, pg)
			follows(t, maps, got)
			for _, x := range got {
				lengths[min(x.To-x.From, 3)]++
			}
		}
	}
	for long, many := range lengths {
		if many < 30 {
			t.Errorf("%d intervals of %d epochs: too little was tested", many, long+1)
		}
	}
}

// follows looks at what In2 says: each epoch is in one interval, and those one behind the
// other are unlike.
func follows(t testing.TB, l []api.Map, all []api.Interval) {
	t.Helper()
	epoch := l[0].Epoch
	for i, x := range all {
		if x.From != epoch || x.To < x.From {
			t.Fatalf("an interval from %d to %d, and ahead of it they came to %d", x.From, x.To, epoch)
		}
		epoch = x.To + 1
		if i == 0 {
			continue
		}
		ahead := all[i-1]
		if slices.Equal(x.Acting, ahead.Acting) && slices.Equal(x.Lives, ahead.Lives) && slices.Equal(x.Boots, ahead.Boots) {
			t.Fatalf("%+v is behind %+v", x, ahead)
		}
	}
	if last := l[len(l)-1].Epoch; epoch != last+1 {
		t.Fatalf("the intervals come to %d, and the maps to %d", epoch-1, last)
	}
}

// In1: a cluster's life by layer 13's changes, from a pool's first map on.
func TestLedFromTheFirstMap(t *testing.T) {
	add := func(id int) api.Change {
		return api.Change{Kind: api.ChangeAdd, Osd: api.Osd{Id: id, In: true, Weight: api.One, Host: id, Rack: id}}
	}
	rise := func(id, life, boot int) api.Change {
		return api.Change{Kind: api.ChangeUp, Osd: api.Osd{Id: id, Life: life, Boot: boot}}
	}
	only := func(kind, id int) api.Change { return api.Change{Kind: kind, Osd: api.Osd{Id: id}} }
	first := api.Map{Pool: api.Pool{K: 1, M: 1, Pgs: 1}}
	maps := led(t, first, add(4), rise(4, 8, 1), only(api.ChangeDown, 4), rise(4, 8, 2), add(5), only(api.ChangeOut, 4), rise(5, 1, 1))
	got := check(t, maps, 0)
	follows(t, maps, got)
	// OSD 5 takes the first place from OSD 4 as soon as it is there, though it is not up.
	want := []api.Interval{
		{From: 0, To: 1, Acting: []int{-1, -1}, Lives: []int{0, 0}, Boots: []int{0, 0}, Primary: -1},
		{From: 2, To: 2, Acting: []int{4, -1}, Lives: []int{8, 0}, Boots: []int{1, 0}, Primary: 4},
		{From: 3, To: 3, Acting: []int{-1, -1}, Lives: []int{0, 0}, Boots: []int{0, 0}, Primary: -1},
		{From: 4, To: 4, Acting: []int{4, -1}, Lives: []int{8, 0}, Boots: []int{2, 0}, Primary: 4},
		{From: 5, To: 5, Acting: []int{-1, 4}, Lives: []int{0, 8}, Boots: []int{0, 2}, Primary: 4},
		{From: 6, To: 6, Acting: []int{-1, -1}, Lives: []int{0, 0}, Boots: []int{0, 0}, Primary: -1},
		{From: 7, To: 7, Acting: []int{5, -1}, Lives: []int{1, 0}, Boots: []int{1, 0}, Primary: 5},
	}
	if !sameAll(got, want) {
		t.Errorf("All = %+v, want %+v", got, want)
	}
}

// In1: the first and the last epoch that may be, and maps without OSDs.
func TestEpochsAtTheEdges(t *testing.T) {
	for _, from := range []int{0, 1, 1<<20 - 3} {
		m := wide(api.Pool{K: 1, M: 1, Pgs: 32, Domain: 2}, 3)
		m.Epoch = from
		maps := behind(m, func(l []api.Osd) { l[0].Up = false }, func(l []api.Osd) { l[1].Boot++ }, func(l []api.Osd) { l[0].Up = true })
		for pg := range 32 {
			follows(t, maps, check(t, maps, pg))
		}
	}
	nobody := api.Map{Epoch: 1 << 20, Pool: api.Pool{K: 31, M: 1, Pgs: 32}}
	got := check(t, []api.Map{nobody}, 31)
	if len(got) != 1 || got[0].From != 1<<20 || got[0].To != 1<<20 || len(got[0].Acting) != 32 || got[0].Primary != -1 {
		t.Errorf("of nobody %+v is told", got)
	}
}

// In1: 4096 maps may be, each an interval, or all one; 4097 may not.
func TestHowManyMaps(t *testing.T) {
	steady, turning := []api.Map{}, []api.Map{}
	for epoch := range 4097 {
		steady = append(steady, one(epoch, up(3, 1)))
		turning = append(turning, one(epoch, up(3, 1+epoch)))
	}
	if got, errno := interval.All(steady[:4096], 0); errno != api.OK || !sameAll(got, []api.Interval{kept(0, 4095, 3, 1)}) {
		t.Errorf("All of what never turns = %+v, error %d", got, errno)
	}
	if got, errno := interval.Last(steady[1:], 0); errno != api.OK || !same(got, kept(1, 4096, 3, 1)) {
		t.Errorf("Last of what never turns = %+v, error %d", got, errno)
	}
	got, errno := interval.All(turning[1:], 0)
	if errno != api.OK || len(got) != 4096 {
		t.Fatalf("All = %d intervals, error %d", len(got), errno)
	}
	for i, x := range got {
		if !same(x, kept(1+i, 1+i, 3, 2+i)) {
			t.Fatalf("interval %d is %+v", i, x)
		}
	}
	if got, errno := interval.Before(turning[:4096], 0, 100); errno != api.OK || len(got) != 100 || got[0].From != 99 || got[99].From != 0 {
		t.Errorf("Before = %d intervals, error %d", len(got), errno)
	}
	refuses(t, "4097 maps", steady, 0)
	refuses(t, "4097 maps", turning, 0)
}

// In1: Before goes by From alone: an interval that began ahead of an epoch and goes on
// behind it is told whole; one that begins at it is not.
func TestBeforeGoesByFrom(t *testing.T) {
	maps := []api.Map{one(5, up(3, 1)), one(6, up(3, 1)), one(7, up(4, 1)), one(8, up(4, 1)), one(9, down(4, 1))}
	a, b, c := kept(5, 6, 3, 1), kept(7, 8, 4, 1), empty(9, 9)
	for epoch, want := range map[int][]api.Interval{
		0: nil, 4: nil, 5: nil, 6: {a}, 7: {a}, 8: {b, a}, 9: {b, a}, 10: {c, b, a}, 99: {c, b, a}, -7: nil,
	} {
		if got, errno := interval.Before(maps, 0, epoch); errno != api.OK || !sameAll(got, want) {
			t.Errorf("Before %d = %+v, error %d, want %+v", epoch, got, errno, want)
		}
	}
}
