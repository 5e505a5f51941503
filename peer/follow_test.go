package peer_test

import (
	"slices"
	"testing"

	"mooring/api"
	"mooring/peer"
)

// keeps looks whether a choice loses nothing of what was done at an interval up to an
// entry: it waits, or is of that interval or a later one, and of that one up to there.
func keeps(c api.Choice, from, done int) bool {
	switch c.Kind {
	case api.ChoiceWait:
		return true
	case api.ChoiceState:
		return c.Since > from || c.Since == from && c.Head >= done
	}
	return false
}

// counting are the places in a list of the infos that count for an interval.
func counting(x api.Interval, infos []api.Info) []int {
	var out []int
	told := map[int]int{}
	for n, i := range infos {
		if slowCounts(x, i) {
			if told[i.Osd]++; told[i.Osd] == 1 {
				out = append(out, n)
			}
		}
	}
	return out
}

// Pe2: each info that counts for an interval that is enough has it in Now, up to an entry
// or further: whatever else they, and all others, tell, nothing of it is lost.
func TestWhatWasDoneIsNotLost(t *testing.T) {
	n := numbers(3)
	tally := map[string]int{}
	for range 300000 {
		osds := 3 + n.below(5)
		l, infos, k := n.anyIntervals(osds), n.anyInfos(osds), 1+n.below(3)
		if _, errno := peer.Choose(l, infos, k); errno != api.OK || len(l) == 0 {
			continue
		}
		x := l[n.below(len(l))]
		if slowKeepers(x) < k {
			continue
		}
		done := n.below(6)
		for _, at := range counting(x, infos) {
			infos[at].Now, infos[at].Head = x.From, done+n.below(3)
		}
		c := chooses(t, l, infos, k)
		if !keeps(c, x.From, done) {
			t.Fatalf("up to %d was done at %+v: of %+v and %+v and %d %+v is chosen", done, x, l, infos, k, c)
		}
		switch {
		case c.Kind == api.ChoiceWait:
			tally["wait"]++
		case c.Since == x.From:
			tally["of that one"]++
		default:
			tally["of a later one"]++
		}
	}
	for _, what := range []string{"wait", "of that one", "of a later one"} {
		if tally[what] < 5000 {
			t.Errorf("%v: too little was tested", tally)
		}
	}
}

// Pe2, of each row of shapes: whenever its words hold of an interval, nothing of it is
// lost, up to the least entry of those that count.
func TestWhatWasDoneIsNotLostSmall(t *testing.T) {
	held := 0
	small(func(infos []api.Info) {
		for _, l := range short() {
			for _, x := range l {
				at := counting(x, infos)
				if slices.ContainsFunc(at, func(n int) bool { return infos[n].Now != x.From }) {
					continue
				}
				done := 5
				for _, n := range at {
					done = min(done, infos[n].Head)
				}
				for k := 1; k <= slowKeepers(x); k++ {
					held++
					if c, errno := peer.Choose(l, infos, k); errno != api.OK || !keeps(c, x.From, done) {
						t.Fatalf("up to %d was done at %+v: of %+v and %+v and %d %+v is chosen", done, x, l, infos, k, c)
					}
				}
			}
		}
	})
	if held < 5000 {
		t.Errorf("it held %d times: too little was tested", held)
	}
}

// alike lets all infos of an OSD tell what the first of them tells.
func alike(infos []api.Info) []api.Info {
	out := slices.Clone(infos)
	for n := range out {
		first := slices.IndexFunc(out, func(i api.Info) bool { return i.Osd == out[n].Osd })
		out[n] = out[first]
	}
	return out
}

// notElder looks whether the choices of all subsets of infos, and of those with one more,
// lead from no state back.
func notElder(t *testing.T, l []api.Interval, infos []api.Info, k int) (on int) {
	t.Helper()
	some := subsets(infos)
	var came []api.Choice
	for _, infos := range some {
		c, errno := peer.Choose(l, infos, k)
		if errno != api.OK {
			t.Fatalf("error %d", errno)
		}
		came = append(came, c)
	}
	for set, c := range came {
		for n := range infos {
			more := came[set|1<<n]
			if c.Kind != api.ChoiceState {
				continue
			}
			if more.Kind != api.ChoiceState || more.Since < c.Since {
				t.Fatalf("of %+v: %+v come to %+v, and %+v to %+v", l, some[set], c, some[set|1<<n], more)
			}
			if more.Since > c.Since {
				on++
			}
		}
	}
	return on
}

// Pe3: infos more, wherever they stand in the list, never lead from a state back to an
// elder one, as long as those of one OSD are alike.
func TestInfosMoreNeverLeadBack(t *testing.T) {
	n := numbers(4)
	on := 0
	for range 24000 {
		osds := 3 + n.below(5)
		l, infos, k := n.anyIntervals(osds), alike(n.anyInfos(osds)), 1+n.below(3)
		if _, errno := peer.Choose(l, infos, k); errno == api.OK {
			on += notElder(t, l, infos, k)
		}
	}
	if on < 1000 {
		t.Errorf("%d led on to a later one: too little was tested", on)
	}
}

// Pe3, of each row of shapes.
func TestInfosMoreNeverLeadBackSmall(t *testing.T) {
	on, turn := 0, 0
	small(func(infos []api.Info) {
		turn++
		l := short()[turn%len(short())]
		on += notElder(t, l, infos, 1+turn/len(short())%3)
	})
	if on < 1000 {
		t.Errorf("%d led on to a later one: too little was tested", on)
	}
}

// Pe3 speaks of infos that are alike: where one OSD tells first that it lacks an interval
// and then that it has it, the first alone counts, and one more ahead may lead back. This
// holds the tests above to be no more than what the chapter says.
func TestInfosThatAreNotAlike(t *testing.T) {
	l := []api.Interval{kept(5, 1, 2, 3), kept(2, 1, 2, 3)}
	infos := []api.Info{told(1, 5, 7), told(2, 5, 7)}
	comes(t, "two have it", l, infos, 2, state(5, 7, 1, 2))
	comes(t, "told anew, behind", l, append(infos, told(1, 2, 4), told(2, 2, 4)), 2, state(5, 7, 1, 2))
	comes(t, "told anew, ahead", l, append([]api.Info{told(1, 2, 4), told(2, 2, 4)}, infos...), 2, state(2, 4, 1, 2))
}
