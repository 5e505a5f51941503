package peer_test

import (
	"fmt"
	"slices"
	"sync"
	"testing"

	"mooring/api"
	"mooring/peer"
)

// room is a list in memory of its own, with room behind its end; in it are others.
func room[T any](l []T, behind ...T) []T {
	out := append(append(make([]T, 0, len(l)+len(behind)), l...), behind...)
	return out[:len(l)]
}

// roomyInterval and those below it are in memory of their own, with room behind each
// list's end; in it stands what would turn each answer, if it were looked at.
func roomyInterval(x api.Interval) api.Interval {
	x.Acting = room(x.Acting, 5, 6, 7)
	x.Lives = room(x.Lives, lifeOf(5), lifeOf(6), lifeOf(7))
	x.Boots = room(x.Boots, 1, 1)
	return x
}

func roomyIntervals(l []api.Interval) []api.Interval {
	var out []api.Interval
	for _, x := range l {
		out = append(out, roomyInterval(x))
	}
	return room(out, kept(99, 5, 6, 7), kept(-9, 5, 6, 7))
}

func roomyInfo(i api.Info) api.Info {
	i.Next = room(i.Next, staged(9, 9), staged(7, 9), staged(5, 9), staged(4, 9), staged(2, 9))
	return i
}

func roomyInfos(l []api.Info) []api.Info {
	var out []api.Info
	for _, i := range l {
		out = append(out, roomyInfo(i))
	}
	return room(out, told(1, 9, 9), told(2, 9, 9), told(3, 9, 9), told(4, 0, 0))
}

// wholeText is all that is handed in, with what is in the room behind lists' ends.
func wholeText(l []api.Interval, infos []api.Info) string {
	out := ""
	for _, x := range l[:cap(l)] {
		out += fmt.Sprint(x, x.Acting[:cap(x.Acting)], x.Lives[:cap(x.Lives)], x.Boots[:cap(x.Boots)])
	}
	for _, i := range infos[:cap(infos)] {
		out += fmt.Sprint(i, i.Next[:cap(i.Next)])
	}
	return out
}

// given is what Choose is given.
type given struct {
	l     []api.Interval
	infos []api.Info
	k     int
}

// cases are such as come to each kind of choice, and to an error.
func cases() (out []given) {
	n := numbers(5)
	for range 1500 {
		osds := 3 + n.below(4)
		out = append(out, given{n.anyIntervals(osds), n.anyInfos(osds), n.below(4)})
	}
	for _, infos := range [][]api.Info{
		{told(1, 9, 3), told(2, 4, 3, staged(7, 1), staged(9, 5)), told(3, 0, 0)},
		{told(1, 7, 3), told(2, 4, 3, staged(7, 1)), told(3, 7, 4), told(4, 4, 3, staged(7, 2))},
		{told(1, 0, 0), told(4, 4, 4)},
		{told(1, 9, 3)},
	} {
		for k := range 4 {
			out = append(out, given{[]api.Interval{kept(9, 3, 1, 2), kept(7, 4, 2, 3), kept(4, 4, -1, 1)}, infos, k})
		}
	}
	return out
}

// R3: what is handed in, and what lies in the room behind its lists' ends, stays as it was,
// and is not told.
func TestWhatIsHandedInStays(t *testing.T) {
	for _, g := range cases() {
		l, infos := roomyIntervals(g.l), roomyInfos(g.infos)
		was := wholeText(l, infos)
		want, wrong := slowChoose(g.l, g.infos, g.k)
		if got, errno := peer.Choose(l, infos, g.k); errno != wrong || !same(got, want) {
			t.Fatalf("%+v, error %d, and without room %+v, error %d", got, errno, want, wrong)
		}
		for _, x := range l {
			for _, i := range infos {
				has(t, x, i)
				lacks(t, x, i)
			}
		}
		if wholeText(l, infos) != was {
			t.Fatalf("%s has become %s", was, wholeText(l, infos))
		}
	}
}

// R3: what is handed in may share memory with itself.
func TestMemoryHandedInTwice(t *testing.T) {
	osds := []int{1, 2, 3}
	next := []api.Staged{staged(2, 4), staged(5, 6)}
	l := []api.Interval{{From: 5, Acting: osds, Lives: osds, Boots: osds}, {From: 2, Acting: osds, Lives: osds, Boots: osds}}
	infos := []api.Info{{Osd: 1, Life: 1, Now: 1, Next: next}, {Osd: 2, Life: 2, Now: 1, Next: next}, {Osd: 3, Life: 3, Now: 1, Next: next[:1]}}
	comes(t, "shared", l, infos, 2, state(5, 6, 1, 2))
	comes(t, "shared", l, infos, 3, state(2, 4, 1, 2, 3))
	if want := []int{1, 2, 3}; !slices.Equal(osds, want) || next[0] != staged(2, 4) || next[1] != staged(5, 6) {
		t.Errorf("%v and %v have turned", osds, next)
	}
}

// R3: an answer is new memory, its spare room too: to write into it turns no other answer,
// and nothing that was handed in; nor does it turn with that.
func TestAnswersAreNew(t *testing.T) {
	states := 0
	for _, g := range cases() {
		l, infos := roomyIntervals(g.l), roomyInfos(g.infos)
		was := wholeText(l, infos)
		want, _ := slowChoose(g.l, g.infos, g.k)
		kept, _ := peer.Choose(l, infos, g.k)
		got, _ := peer.Choose(l, infos, g.k)
		if got.Kind == api.ChoiceState {
			states++
		}
		for n := range got.Whence[:cap(got.Whence)] {
			got.Whence[:cap(got.Whence)][n] = -77
		}
		if wholeText(l, infos) != was || !same(kept, want) {
			t.Fatalf("to write into an answer turns %+v to %+v, or what was handed in", want, kept)
		}
		scribble(l, infos)
		if !same(kept, want) {
			t.Fatalf("%+v turns to %+v with what was handed in", want, kept)
		}
	}
	if states < 50 {
		t.Errorf("%d states: too little was tested", states)
	}
}

// scribble writes over all lists, and the room behind their ends.
func scribble(l []api.Interval, infos []api.Info) {
	for _, x := range l[:cap(l)] {
		for _, list := range [][]int{x.Acting, x.Lives, x.Boots} {
			for n := range list[:cap(list)] {
				list[:cap(list)][n] = -77
			}
		}
	}
	for _, i := range infos[:cap(infos)] {
		clear(i.Next[:cap(i.Next)])
	}
	clear(l[:cap(l)])
	clear(infos[:cap(infos)])
}

// R1, R2: nil and empty lists are the same; a wait, an empty one and an error tell nothing
// beside.
func TestNilAndEmpty(t *testing.T) {
	for _, l := range [][]api.Interval{nil, {}, {kept(5, 1, 2)}, {{From: 5, Acting: []int{1, 2}, Lives: []int{lifeOf(1), lifeOf(2)}}}} {
		for _, infos := range [][]api.Info{nil, {}, {told(1, 0, 0)}, {{Osd: 1, Life: lifeOf(1), Next: []api.Staged{}}}} {
			for k := -1; k <= 3; k++ {
				c := chooses(t, l, infos, k)
				if c.Kind != api.ChoiceState && (c.Since != 0 || c.Head != 0 || len(c.Whence) != 0) {
					t.Errorf("%+v", c)
				}
			}
		}
	}
}

// R4: the same is told each time, whatever was asked ahead of it, and by many at once.
func TestTheSameEachTime(t *testing.T) {
	l := cases()
	var want []api.Choice
	for _, g := range l {
		c, _ := slowChoose(g.l, g.infos, g.k)
		want = append(want, c)
	}
	var all sync.WaitGroup
	for worker := range 8 {
		all.Go(func() {
			n := numbers(worker)
			for range 2000 {
				at := n.below(len(l))
				if got, _ := peer.Choose(l[at].l, l[at].infos, l[at].k); !same(got, want[at]) {
					t.Errorf("%+v, and not %+v", got, want[at])
				}
			}
		})
	}
	all.Wait()
}

var keepKind int

// BenchmarkChoose passes by some hundred intervals that all lack.
func BenchmarkChoose(b *testing.B) {
	l := []api.Interval{kept(0, 1, 2, 3)}
	for from := range 100 {
		l = append([]api.Interval{kept(from+1, 1+from%9, 2+from%9, 3+from%9)}, l...)
	}
	var infos []api.Info
	for osd := range 12 {
		infos = append(infos, told(osd, 0, 9))
	}
	for range b.N {
		c, _ := peer.Choose(l, infos, 2)
		keepKind ^= c.Kind
	}
}
