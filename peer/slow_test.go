package peer_test

import (
	"math"
	"slices"
	"testing"

	"mooring/api"
	"mooring/peer"
)

// lifeOf is the life that OSDs have where a test does not say another one: unlike the
// OSD's number, and of each OSD another.
func lifeOf(osd int) int { return 100 + 7*osd }

// kept is an interval at which OSDs keep a placement group; -1 is a Hole.
func kept(from int, osds ...int) api.Interval {
	x := api.Interval{From: from, To: from + 3, Acting: osds, Lives: make([]int, len(osds)), Boots: make([]int, len(osds)), Primary: api.Hole}
	for n, osd := range osds {
		if osd != api.Hole {
			x.Lives[n], x.Boots[n] = lifeOf(osd), 1
		}
	}
	return x
}

// told is what an OSD tells of Now.
func told(osd, now, head int, next ...api.Staged) api.Info {
	return api.Info{Osd: osd, Life: lifeOf(osd), Now: now, Head: head, Next: next}
}

func staged(since, head int) api.Staged { return api.Staged{Since: since, Head: head} }

// other is an info of another life of its OSD.
func other(i api.Info) api.Info {
	i.Life++
	return i
}

// state, wait and empty are what infos may come to.
func state(since, head int, whence ...int) api.Choice {
	return api.Choice{Kind: api.ChoiceState, Since: since, Head: head, Whence: whence}
}

func wait() api.Choice { return api.Choice{Kind: api.ChoiceWait} }

func empty() api.Choice { return api.Choice{Kind: api.ChoiceEmpty} }

// same says whether choices are alike in all.
func same(a, b api.Choice) bool {
	return a.Kind == b.Kind && a.Since == b.Since && a.Head == b.Head && slices.Equal(a.Whence, b.Whence)
}

// slowCounts says whether an info counts for an interval, where it is the sole one of its
// OSD, by the chapter's words.
func slowCounts(x api.Interval, i api.Info) bool {
	for n, osd := range x.Acting {
		if osd == i.Osd && osd != -1 && n < len(x.Lives) && x.Lives[n] == i.Life {
			return true
		}
	}
	return false
}

// slowHas goes by all that an info tells, Now ahead of Next.
func slowHas(x api.Interval, i api.Info) (int, bool) {
	for _, s := range append([]api.Staged{{Since: i.Now, Head: i.Head}}, i.Next...) {
		if s.Since == x.From && slowCounts(x, i) {
			return s.Head, true
		}
	}
	return 0, false
}

func slowLacks(x api.Interval, i api.Info) bool {
	of := 0
	for _, s := range i.Next {
		if s.Since == x.From {
			of++
		}
	}
	return of == 0 && i.Now < x.From && slowCounts(x, i)
}

// slowChoose is the choice by the chapter's words: who counts is looked for OSD by OSD,
// heads are not sorted but counted, and of the intervals the first one that will do is
// taken off.
func slowChoose(l []api.Interval, infos []api.Info, k int) (api.Choice, api.Errno) {
	if k <= 0 {
		return api.Choice{}, api.ErrArg
	}
	for later := range l {
		for elder := later + 1; elder < len(l); elder++ {
			if l[later].From <= l[elder].From {
				return api.Choice{}, api.ErrArg
			}
		}
	}
	at := slices.IndexFunc(l, func(x api.Interval) bool { return slowKeepers(x) >= k })
	if at < 0 {
		return empty(), api.OK
	}
	heads, lacking := slowTold(l[at], infos)
	switch {
	case len(heads) >= k:
		return slowState(l[at].From, heads, k), api.OK
	case lacking == 0:
		return wait(), api.OK
	}
	return slowChoose(l[at+1:], infos, k)
}

// slowKeepers is how many places are no Hole.
func slowKeepers(x api.Interval) int {
	return len(slices.DeleteFunc(slices.Clone(x.Acting), func(osd int) bool { return osd == -1 }))
}

// slowTold is up to which entry each OSD has an interval, and how many lack it.
func slowTold(x api.Interval, infos []api.Info) (heads map[int]int, lacking int) {
	heads = map[int]int{}
	osds := slices.Clone(x.Acting)
	slices.Sort(osds)
	for _, osd := range slices.Compact(osds) {
		at := slices.IndexFunc(infos, func(i api.Info) bool { return i.Osd == osd && slowCounts(x, i) })
		if at < 0 {
			continue
		}
		if head, ok := slowHas(x, infos[at]); ok {
			heads[osd] = head
		}
		if slowLacks(x, infos[at]) {
			lacking++
		}
	}
	return heads, lacking
}

// slowState is the state of an interval: the greatest of the heads to which k at least
// come, and who does.
func slowState(since int, heads map[int]int, k int) api.Choice {
	best := api.Choice{Kind: api.ChoiceState, Since: since, Head: math.MinInt}
	for _, head := range heads {
		var whence []int
		for osd, upTo := range heads {
			if upTo >= head {
				whence = append(whence, osd)
			}
		}
		if len(whence) >= k && head >= best.Head {
			slices.Sort(whence)
			best.Head, best.Whence = head, whence
		}
	}
	return best
}

// has and lacks hold what is told of an interval and an info against the words.
func has(t testing.TB, x api.Interval, i api.Info) (int, bool) {
	t.Helper()
	got, ok := peer.Has(x, i)
	if want, wantOk := slowHas(x, i); got != want || ok != wantOk {
		t.Fatalf("Has of %+v and %+v is %d, %t, and not %d, %t", x, i, got, ok, want, wantOk)
	}
	return got, ok
}

func lacks(t testing.TB, x api.Interval, i api.Info) bool {
	t.Helper()
	got := peer.Lacks(x, i)
	if got != slowLacks(x, i) {
		t.Fatalf("Lacks of %+v and %+v is %t", x, i, got)
	}
	return got
}

// chooses holds a choice against the words.
func chooses(t testing.TB, l []api.Interval, infos []api.Info, k int) api.Choice {
	t.Helper()
	got, errno := peer.Choose(l, infos, k)
	want, wrong := slowChoose(l, infos, k)
	if !same(got, want) || errno != wrong {
		t.Fatalf("Choose of\n%+v\nand\n%+v\nand %d: %+v, error %d, and not %+v, error %d", l, infos, k, got, errno, want, wrong)
	}
	return got
}

// comes looks whether infos come to what a test says, as well as the words.
func comes(t testing.TB, what string, l []api.Interval, infos []api.Info, k int, want api.Choice) {
	t.Helper()
	if got := chooses(t, l, infos, k); !same(got, want) {
		t.Errorf("%s: %+v, and not %+v", what, got, want)
	}
}

// refuses looks whether a choice is refused.
func refuses(t testing.TB, what string, l []api.Interval, infos []api.Info, k int) {
	t.Helper()
	if got, errno := peer.Choose(l, infos, k); errno != api.ErrArg || !same(got, api.Choice{}) {
		t.Errorf("%s: %+v, error %d", what, got, errno)
	}
}

// wild are numbers at all edges, and far beyond.
func wild() []int {
	return []int{math.MinInt, math.MinInt + 1, -1 << 40, -1 << 32, -2, -1, 0, 1, 2, 3, 4, 5, 31, 32, 33, 64, 4096, 4097,
		1<<20 - 1, 1 << 20, 1<<20 + 1, 1<<31 - 1, 1 << 31, 1 << 32, 1<<32 + 1, 1<<32 + 3, math.MaxInt - 1, math.MaxInt}
}

// numbers is a stream of numbers, the same in every run.
type numbers uint64

func (n *numbers) below(most int) int {
	*n = *n*6364136223846793005 + 1442695040888963407
	return int(uint64(*n)>>33) % most
}

// some is a number of a stream, seldom a wild one.
func (n *numbers) some(most int) int {
	if n.below(60) == 0 {
		return wild()[n.below(len(wild()))]
	}
	return n.below(most)
}

// anyIntervals are some whose Froms fall, of few OSDs of few lives; seldom they do not.
func (n *numbers) anyIntervals(osds int) []api.Interval {
	from := 5 + n.below(4)
	var out []api.Interval
	for range n.below(7) {
		from -= 1 + n.below(2)
		if n.below(150) == 0 {
			from = n.some(8)
		}
		x := api.Interval{From: from, To: n.below(9), Primary: n.below(4) - 1}
		for _, osd := range n.choose(osds, 1+n.below(5)) {
			life := 1 + n.below(5)/4
			if n.below(4) == 0 {
				osd, life = api.Hole, 0
			}
			x.Acting, x.Lives, x.Boots = append(x.Acting, osd), append(x.Lives, life), append(x.Boots, n.below(3))
		}
		if n.below(40) == 0 {
			// No map tells such a one: an OSD twice, and too few lives or too many.
			x.Acting = append(x.Acting, x.Acting...)
			x.Lives = append(x.Lives, 1, 2, 1)[:n.below(len(x.Lives)+4)]
		}
		out = append(out, x)
	}
	return out
}

// choose is some OSDs, no two alike.
func (n *numbers) choose(osds, many int) []int {
	var out []int
	for range many {
		if osd := n.below(osds); !slices.Contains(out, osd) {
			out = append(out, osd)
		}
	}
	return out
}

// anyInfo is one of few OSDs of few lives, of few intervals.
func (n *numbers) anyInfo(osds int) api.Info {
	i := api.Info{Osd: n.some(osds), Life: n.some(5)/4 + 1, Now: n.some(8), Head: n.some(5)}
	for range n.below(4) {
		i.Next = append(i.Next, staged(n.some(8), n.some(5)))
	}
	return i
}

// anyInfos are infos of few OSDs, of one some, seldom alike.
func (n *numbers) anyInfos(osds int) []api.Info {
	var out []api.Info
	for range n.below(9) {
		out = append(out, n.anyInfo(osds))
	}
	return out
}

// subsets are all choices of some of infos, in their order, each with all of them.
func subsets(infos []api.Info) [][]api.Info {
	var out [][]api.Info
	for set := range 1 << len(infos) {
		var some []api.Info
		for n, i := range infos {
			if set>>n&1 == 1 {
				some = append(some, i)
			}
		}
		out = append(out, some)
	}
	return out
}
