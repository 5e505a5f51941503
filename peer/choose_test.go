package peer_test

import (
	"math"
	"slices"
	"testing"

	"mooring/api"
	"mooring/peer"
)

// Pe1: ErrArg of a k below 1; a k that no interval has as many places as is none's.
func TestChooseOfK(t *testing.T) {
	l := []api.Interval{kept(5, 1, 2, 3), kept(2, 1, 2, 4)}
	infos := []api.Info{told(1, 5, 7), told(2, 5, 6), told(3, 5, 5)}
	for _, k := range []int{0, -1, -2, -1 << 32, 1 - 1<<32, math.MinInt, math.MinInt + 1} {
		refuses(t, "a k below 1", l, infos, k)
		refuses(t, "a k below 1, of nothing", nil, nil, k)
	}
	comes(t, "1", l, infos, 1, state(5, 7, 1))
	comes(t, "2", l, infos, 2, state(5, 6, 1, 2))
	comes(t, "3", l, infos, 3, state(5, 5, 1, 2, 3))
	for _, k := range []int{4, 5, 32, 33, 1 << 20, 1 << 32, 1<<32 + 1, math.MaxInt} {
		comes(t, "a k that nobody is enough for", l, infos, k, empty())
	}
}

// Pe1: ErrArg, if the Froms do not fall, at each place of the list, whatever else is asked.
func TestChooseOfFroms(t *testing.T) {
	infos := []api.Info{told(1, 9, 7), told(2, 9, 6)}
	falling := []api.Interval{kept(9, 1, 2, 3), kept(7, 1, 2, 4), kept(6, -1, -1, -1), kept(2, 1, 2, 4), kept(1, 3, 2, 4)}
	comes(t, "falling", falling, infos, 2, state(9, 6, 1, 2))
	for n := range len(falling) - 1 {
		for _, wrong := range []int{0, 1, 50} {
			l := slices.Clone(falling)
			l[n+1].From = l[n].From + wrong
			refuses(t, "an elder one that is not elder", l, infos, 2)
			refuses(t, "an elder one that is not elder", l, nil, 1)
			refuses(t, "an elder one that is not elder, and too many", l, infos, 9)
			refuses(t, "an elder one that is not elder, and none", l, infos, 0)
		}
	}
	slices.Reverse(falling)
	refuses(t, "the first one first", falling, infos, 2)
	refuses(t, "twice the same", []api.Interval{falling[0], falling[0]}, infos, 2)
	comes(t, "one alone", falling[4:], infos, 2, state(9, 6, 1, 2))
	comes(t, "at the edges", []api.Interval{kept(math.MaxInt, 1, 2), kept(0, 1, 2), kept(math.MinInt, 1, 2)},
		[]api.Info{told(1, -1, 0), told(2, math.MinInt, 3), told(1, math.MinInt, 4)}, 1, state(math.MinInt, 3, 2))
	refuses(t, "from the least to the greatest", []api.Interval{kept(math.MinInt, 1, 2), kept(math.MaxInt, 1, 2)}, infos, 1)
}

// Pe1: behind all intervals: empty; without infos the first one that is enough waits.
func TestChooseOfNothing(t *testing.T) {
	infos := []api.Info{told(1, 0, 0), told(2, 0, 0)}
	for _, k := range []int{1, 2, 3} {
		comes(t, "no interval", nil, nil, k, empty())
		comes(t, "no interval, and infos", []api.Interval{}, infos, k, empty())
		comes(t, "no infos", []api.Interval{kept(5, 1, 2, 3)}, nil, k, wait())
		comes(t, "no infos", []api.Interval{kept(5, 1, 2, 3), kept(3, 1, 2)}, []api.Info{}, k, wait())
	}
	comes(t, "nobody is enough", []api.Interval{kept(5, 1, -1, -1), kept(3, -1, 2, -1)}, []api.Info{told(1, 5, 7), told(2, 3, 7)}, 2, empty())
	comes(t, "nobody has any place", []api.Interval{kept(5), kept(3, -1, -1, -1), {}}, infos, 1, empty())
}

// Pe1: of one interval: state, wait or the one behind it, by who has it and who lacks it.
func TestChooseOfOne(t *testing.T) {
	x := []api.Interval{kept(5, 1, 2, 3, 4)}
	has := func(osd, head int) api.Info { return told(osd, 5, head) }
	lacks := func(osd int) api.Info { return told(osd, 2, 9) }
	later := func(osd int) api.Info { return told(osd, 6, 9) }
	for _, known := range []struct {
		what  string
		infos []api.Info
		want  api.Choice
	}{
		{"one has it", []api.Info{has(1, 3)}, wait()},
		{"two have it", []api.Info{has(1, 3), has(4, 3)}, state(5, 3, 1, 4)},
		{"two have it, and one lacks it", []api.Info{lacks(2), has(1, 3), has(4, 3)}, state(5, 3, 1, 4)},
		{"two have it, and two lack it", []api.Info{lacks(2), has(1, 3), lacks(3), has(4, 3)}, state(5, 3, 1, 4)},
		{"two have it, one is of a later one", []api.Info{later(2), has(1, 3), has(4, 3)}, state(5, 3, 1, 4)},
		{"one has it, and one lacks it", []api.Info{has(1, 3), lacks(2)}, empty()},
		{"one lacks it", []api.Info{lacks(2)}, empty()},
		{"all lack it", []api.Info{lacks(2), lacks(1), lacks(3), lacks(4)}, empty()},
		{"one is of a later one", []api.Info{later(2)}, wait()},
		{"all are of a later one", []api.Info{later(2), later(1), later(3), later(4)}, wait()},
		{"one has it, others are of a later one", []api.Info{later(2), has(1, 3), later(3), later(4)}, wait()},
		{"one lacks it, others are of a later one", []api.Info{later(2), lacks(1), later(3), later(4)}, empty()},
		{"they have no place", []api.Info{has(5, 3), has(6, 3), has(-1, 3)}, wait()},
		{"they have no place, and lack it", []api.Info{lacks(5), lacks(6), lacks(-1)}, wait()},
		{"they have another life", []api.Info{other(has(1, 3)), other(has(2, 3))}, wait()},
		{"they have another life, and lack it", []api.Info{other(lacks(1)), other(lacks(2))}, wait()},
		{"one has it, others have another life", []api.Info{has(1, 3), other(lacks(2)), other(has(3, 3))}, wait()},
	} {
		comes(t, known.what, x, known.infos, 2, known.want)
	}
}

// Pe1: Head is the k-th greatest of the heads, alike ones counted each, and Whence is all
// that come to it or further, rising, whatever the order of infos and of places.
func TestChooseOfHeads(t *testing.T) {
	x := []api.Interval{kept(5, 40, -1, 7, 30, 2, 11)}
	osds := []int{2, 7, 11, 30, 40}
	for _, known := range []struct {
		heads []int
		wants []api.Choice
	}{
		{[]int{5, 4, 4, 4, 4}, []api.Choice{state(5, 5, 2), state(5, 4, osds...), state(5, 4, osds...), state(5, 4, osds...), state(5, 4, osds...)}},
		{[]int{1, 2, 3, 4, 5}, []api.Choice{state(5, 5, 40), state(5, 4, 30, 40), state(5, 3, 11, 30, 40), state(5, 2, 7, 11, 30, 40), state(5, 1, osds...)}},
		{[]int{9, 3, 9, 0, 9}, []api.Choice{state(5, 9, 2, 11, 40), state(5, 9, 2, 11, 40), state(5, 9, 2, 11, 40), state(5, 3, 2, 7, 11, 40), state(5, 0, osds...)}},
		{[]int{0, 0, 0, 0, 0}, []api.Choice{state(5, 0, osds...), state(5, 0, osds...), state(5, 0, osds...), state(5, 0, osds...), state(5, 0, osds...)}},
		{[]int{2, 10, 100, 4096, 20}, []api.Choice{state(5, 4096, 30), state(5, 100, 11, 30), state(5, 20, 11, 30, 40), state(5, 10, 7, 11, 30, 40), state(5, 2, osds...)}},
	} {
		for shift := range osds {
			var infos []api.Info
			for n := range osds {
				at := (2*n + shift) % len(osds)
				infos = append(infos, told(osds[at], 5, known.heads[at]))
				if at%2 == 1 {
					infos[n] = told(osds[at], 1, 77, staged(3, 66), staged(5, known.heads[at]), staged(6, 88))
				}
			}
			for k, want := range known.wants {
				comes(t, "heads", x, infos, k+1, want)
			}
		}
	}
}

// Pe1: who does not count, and who is of another interval, turns neither Head nor Whence.
func TestChooseOfOthersHeads(t *testing.T) {
	l := []api.Interval{kept(5, 1, 2, 3), kept(3, 4, 5, 6)}
	infos := []api.Info{told(3, 5, 4), told(4, 5, 9), other(told(2, 5, 9)), told(1, 6, 9), told(6, 3, 9), told(2, 5, 3), told(-1, 5, 9)}
	comes(t, "others have more", l, infos, 2, state(5, 3, 2, 3))
	comes(t, "others have more", l, infos, 1, state(5, 4, 3))
	comes(t, "others are later", l, infos, 3, wait())
}

// Pe1: an interval that too few keep is passed by, though infos have it, or nobody tells;
// one of just k places is not.
func TestChooseOfEnough(t *testing.T) {
	few, ahead := kept(5, 1, -1, 3, -1), kept(2, 1, 2, 3, -1)
	l := []api.Interval{few, ahead}
	infos := []api.Info{told(1, 5, 7), told(3, 5, 7), told(2, 2, 4)}
	comes(t, "enough", l, infos, 2, state(5, 7, 1, 3))
	comes(t, "too few, and nobody lacks it", l, infos, 3, wait())
	infos = []api.Info{told(1, 2, 6), told(3, 2, 5, staged(5, 9)), told(2, 2, 4)}
	comes(t, "too few", l, infos, 3, state(2, 4, 1, 2, 3))
	comes(t, "enough, and one lacks it", l, infos, 2, state(2, 5, 1, 3))
	comes(t, "enough, and nobody tells", l, infos[2:], 2, wait())
	comes(t, "too few, and nobody tells", l[:1], nil, 3, empty())
	// No map tells such a one: an OSD has two places, and tells but once.
	comes(t, "twice the same", []api.Interval{kept(5, 1, 1)}, []api.Info{told(1, 5, 7), told(1, 5, 7)}, 2, wait())
	comes(t, "twice the same, that lacks it", []api.Interval{kept(5, 1, 1)}, []api.Info{told(1, 4, 7)}, 2, empty())
}

// Pe1: interval by interval, the last one first: the first that has a state, or where
// nobody lacks it, is the choice.
func TestChooseIntervalByInterval(t *testing.T) {
	l := []api.Interval{kept(9, 1, 2, 3), kept(7, 2, 3, 4), kept(5, -1, -1, 4), kept(4, 1, 4, 5), kept(2, 1, 2, 3)}
	for _, known := range []struct {
		what  string
		infos []api.Info
		want  api.Choice
	}{
		{"the last", []api.Info{told(1, 9, 1), told(2, 9, 1), told(3, 7, 8), told(4, 7, 8)}, state(9, 1, 1, 2)},
		{"the last stands by", []api.Info{told(1, 4, 5, staged(9, 1)), told(2, 7, 8, staged(9, 1)), told(3, 7, 8), told(4, 7, 8)}, state(9, 1, 1, 2)},
		{"the second", []api.Info{told(1, 9, 1), told(2, 7, 8, staged(9, 1)), told(3, 7, 7), told(4, 7, 9)}, state(9, 1, 1, 2)},
		{"the second, of one that has the last", []api.Info{told(1, 9, 1), told(3, 7, 7), told(4, 7, 9)}, state(7, 7, 3, 4)},
		{"the second is too few", []api.Info{told(1, 9, 1), told(3, 7, 7)}, wait()},
		{"the second stands by", []api.Info{told(3, 0, 0, staged(7, 2)), told(4, 4, 9, staged(7, 3))}, state(7, 2, 3, 4)},
		{"the third is not enough", []api.Info{told(3, 2, 2), told(4, 4, 4), told(5, 4, 6)}, state(4, 4, 4, 5)},
		{"the fourth waits", []api.Info{told(3, 2, 2), told(2, 2, 4)}, wait()},
		{"the first", []api.Info{told(3, 2, 2), told(2, 2, 4), told(5, 0, 0)}, state(2, 2, 2, 3)},
		{"the first is too few", []api.Info{told(3, 2, 2), told(5, 0, 0)}, wait()},
		{"none", []api.Info{told(3, 0, 0), told(5, 0, 0)}, empty()},
		{"one alone lacks all but one", []api.Info{told(3, 0, 0)}, wait()},
		{"one alone lacks the last, and waits", []api.Info{told(1, 0, 0)}, wait()},
		{"of no interval of the list", []api.Info{told(1, 8, 1), told(2, 8, 1), told(3, 8, 1)}, wait()},
		{"of elder ones than the list's", []api.Info{told(1, 1, 1), told(2, 1, 1), told(4, 1, 1)}, empty()},
	} {
		comes(t, known.what, l, known.infos, 2, known.want)
	}
}

// Pe1: of several infos of one OSD the first that has a place counts alone: not the
// others' heads, not that they have it, not that they lack it.
func TestChooseOfSeveralOfOne(t *testing.T) {
	l := []api.Interval{kept(5, 1, 2, 3), kept(2, 1, 2, 3)}
	for _, known := range []struct {
		what  string
		infos []api.Info
		want  api.Choice
	}{
		{"twice is once", []api.Info{told(1, 5, 7), told(1, 5, 7)}, wait()},
		{"thrice is once", []api.Info{told(1, 5, 7), told(1, 5, 7), told(1, 5, 7)}, wait()},
		{"twice is in Whence once", []api.Info{told(1, 5, 7), told(2, 5, 7), told(1, 5, 7), told(2, 5, 7)}, state(5, 7, 1, 2)},
		{"the first's head, the lesser", []api.Info{told(1, 5, 3), told(1, 5, 9), told(2, 5, 9)}, state(5, 3, 1, 2)},
		{"the first's head, the greater", []api.Info{told(1, 5, 9), told(1, 5, 3), told(2, 5, 9)}, state(5, 9, 1, 2)},
		{"the first has it, the second lacks it", []api.Info{told(1, 5, 9), told(1, 2, 3)}, wait()},
		{"the first lacks it, the second has it", []api.Info{told(1, 2, 9), told(1, 5, 9), told(2, 5, 9), told(2, 2, 3)}, wait()},
		{"the first lacks it, and stood ahead", []api.Info{told(1, 2, 9), told(1, 5, 9), told(2, 2, 9)}, state(2, 9, 1, 2)},
		{"the first is later, the second lacks it", []api.Info{told(1, 6, 9), told(1, 2, 9)}, wait()},
		{"the first is of another life", []api.Info{other(told(1, 2, 9)), told(1, 5, 7), told(2, 5, 7)}, state(5, 7, 1, 2)},
		{"the first is of another life, the second lacks it", []api.Info{other(told(1, 5, 9)), told(1, 0, 0), told(2, 5, 7)}, empty()},
		{"the second is of another life", []api.Info{told(1, 5, 7), other(told(1, 2, 9)), told(2, 5, 7)}, state(5, 7, 1, 2)},
		{"nobody, several times", []api.Info{told(-1, 5, 7), told(-1, 5, 7), told(-1, 2, 7)}, wait()},
	} {
		comes(t, known.what, l, known.infos, 2, known.want)
	}
	// An OSD of one life in the later interval, and of another one in the elder.
	elder := kept(2, 1, 2, 3)
	elder.Lives[0]--
	infos := []api.Info{told(1, 0, 0), {Osd: 1, Life: elder.Lives[0], Now: 2, Head: 6}, told(3, 2, 8)}
	comes(t, "each for its interval", []api.Interval{l[0], elder}, infos, 2, state(2, 6, 1, 3))
	// No map tells such a one: an OSD has two lives in one interval; it counts once.
	both := api.Interval{From: 5, Acting: []int{1, 1, 2}, Lives: []int{4, 5, lifeOf(2)}}
	infos = []api.Info{{Osd: 1, Life: 5, Now: 5, Head: 6}, {Osd: 1, Life: 4, Now: 5, Head: 8}}
	comes(t, "two lives", []api.Interval{both}, infos, 2, wait())
	comes(t, "two lives", []api.Interval{both}, append(infos, told(2, 5, 7)), 2, state(5, 6, 1, 2))
}

// shapes are some that an OSD may tell of the intervals 1 to 3, of few entries.
func shapes() []api.Info {
	var out []api.Info
	for now := range 5 {
		for _, head := range []int{1, 2} {
			out = append(out, api.Info{Now: now, Head: head}, api.Info{Now: now, Head: head, Next: []api.Staged{staged(3, 3-head)}},
				api.Info{Now: now, Head: head, Next: []api.Staged{staged(2, 3-head)}},
				api.Info{Now: now, Head: head, Next: []api.Staged{staged(1, 2), staged(3, 1)}})
		}
	}
	return out
}

// short are lists of intervals of the OSDs 1 to 3, and of others.
func short() [][]api.Interval {
	return [][]api.Interval{
		{kept(3, 1, 2, 3), kept(2, 3, 2, 1), kept(1, 1, 2, 3)},
		{kept(3, 1, 2, -1), kept(1, 2, 3, 4)},
		{kept(3, 3, 9, 1), kept(2, -1, -1, 2), kept(1, 4, 2, 1)},
		{kept(2, 1, 2, 3)},
	}
}

// small calls with each row of shapes that the OSDs 2, 3 and 1 may tell, the last of them
// maybe nothing.
func small(do func(infos []api.Info)) {
	l := shapes()
	for a := range len(l) + 1 {
		for b := range l {
			for c := range l {
				infos := []api.Info{l[b], l[c]}
				infos[0].Osd, infos[1].Osd = 2, 3
				if a < len(l) {
					infos = append(infos, l[a])
					infos[2].Osd = 1
				}
				for n := range infos {
					infos[n].Life = lifeOf(infos[n].Osd)
				}
				do(infos)
			}
		}
	}
}

// Pe1: the choice of each row of shapes is what the words say; how the infos are ordered,
// and that one comes twice, does not matter.
func TestChooseSmall(t *testing.T) {
	tally := map[int]int{}
	turn := 0
	small(func(infos []api.Info) {
		turn++
		first := turn % len(infos)
		around := append(append(slices.Clone(infos[first:]), infos[:first]...), infos[turn%2])
		for _, l := range short() {
			for k := 1; k <= 3; k++ {
				got := chooses(t, l, infos, k)
				tally[10*got.Kind+got.Since]++
				if again, errno := peer.Choose(l, around, k); errno != api.OK || !same(again, got) {
					t.Fatalf("%+v come to %+v, and in another order to %+v", infos, got, again)
				}
			}
		}
	})
	for _, kind := range []int{10, 20, 31, 32, 33} {
		if tally[kind] < 5000 {
			t.Errorf("%v: too little was tested", tally)
		}
	}
}

// Pe1: the choice of any intervals, infos and k is what the words say.
func TestChooseOfAny(t *testing.T) {
	n := numbers(2)
	told := map[api.Errno]int{}
	tally := map[int]int{}
	for range 200000 {
		osds := 3 + n.below(5)
		l, infos, k := n.anyIntervals(osds), n.anyInfos(osds), n.some(3)+1
		if n.below(20) == 0 {
			k = n.some(2)
		}
		got := chooses(t, l, infos, k)
		tally[got.Kind]++
		_, errno := peer.Choose(l, infos, k)
		told[errno]++
	}
	if told[api.ErrArg] < 1000 || tally[api.ChoiceWait] < 10000 || tally[api.ChoiceEmpty] < 10000 || tally[api.ChoiceState] < 10000 {
		t.Errorf("%v, %v: too little was tested", told, tally)
	}
}

// Pe1: of the most OSDs that keep something, and of many intervals and infos.
func TestChooseOfMany(t *testing.T) {
	var osds []int
	var infos []api.Info
	for osd := range 32 {
		osds = append(osds, 31-osd)
		infos = append(infos, told(osd, 4096, 4096-osd/2))
	}
	wide := kept(4096, osds...)
	for k := 1; k <= 32; k++ {
		comes(t, "32 keep it", []api.Interval{wide}, infos, k, chooses(t, []api.Interval{wide}, infos, k))
		got := chooses(t, []api.Interval{wide}, infos, k)
		if got.Head != 4096-(k-1)/2 || len(got.Whence) != (k+1)/2*2 {
			t.Errorf("of 32, %d: %+v", k, got)
		}
	}
	var l []api.Interval
	for from := 4096; from > 0; from-- {
		l = append(l, kept(from, osds...))
	}
	for _, since := range []int{4096, 4095, 2000, 2, 1} {
		for n := range infos {
			infos[n] = told(n, since, n)
		}
		if got, errno := peer.Choose(l, infos, 20); errno != api.OK || got.Since != since || got.Head != 12 {
			t.Errorf("of 4096 intervals: %+v, error %d", got, errno)
		}
	}
	for n := range infos {
		infos[n] = told(n, 0, 0)
	}
	if got, errno := peer.Choose(l, infos, 1); errno != api.OK || !same(got, empty()) {
		t.Errorf("of 4096 intervals that all lack: %+v, error %d", got, errno)
	}
}
