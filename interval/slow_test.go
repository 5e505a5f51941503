package interval_test

import (
	"math"
	"slices"
	"testing"

	"mooring/api"
	"mooring/atlas"
	"mooring/interval"
	"mooring/place"
)

// slowAll is all intervals by the chapter's words, by layer 18's calls alone: from each
// map on as many as can be, ahead of it and behind it; each of these once.
func slowAll(l []api.Map, pg int) []api.Interval {
	var out []api.Interval
	for at := range l {
		first, last := at, at
		for first > 0 && slowSame(l[first-1], l[at], pg) {
			first--
		}
		for last < len(l)-1 && slowSame(l[last+1], l[at], pg) {
			last++
		}
		if first == at {
			out = append(out, slowOne(l[first], l[last], pg))
		}
	}
	return out
}

// slowSame says whether the same ones keep a placement group by two maps.
func slowSame(a, b api.Map, pg int) bool {
	one, two := slowOne(a, a, pg), slowOne(b, b, pg)
	return slices.Equal(one.Acting, two.Acting) && slices.Equal(one.Lives, two.Lives) && slices.Equal(one.Boots, two.Boots)
}

// slowOne is the interval from a map to another one, as layer 18 tells of the first.
func slowOne(from, to api.Map, pg int) api.Interval {
	acting, _ := place.Acting(from, pg)
	lives, boots, _ := place.Lives(from, pg)
	return api.Interval{From: from.Epoch, To: to.Epoch, Acting: acting, Lives: lives, Boots: boots, Primary: place.Primary(from, pg)}
}

// slowBefore is those of some intervals whose From is below an epoch, the last one first.
func slowBefore(all []api.Interval, epoch int) []api.Interval {
	var out []api.Interval
	for _, x := range all {
		if x.From < epoch {
			out = append([]api.Interval{x}, out...)
		}
	}
	return out
}

// same says whether intervals are alike in all.
func same(x, y api.Interval) bool {
	return x.From == y.From && x.To == y.To && x.Primary == y.Primary && slices.Equal(x.Acting, y.Acting) &&
		slices.Equal(x.Lives, y.Lives) && slices.Equal(x.Boots, y.Boots)
}

// sameAll says whether lists of intervals are alike in all.
func sameAll(a, b []api.Interval) bool { return slices.EqualFunc(a, b, same) }

// check holds all that is told of maps and a placement group against the chapter's words,
// and tells the intervals.
func check(t testing.TB, l []api.Map, pg int) []api.Interval {
	t.Helper()
	want := slowAll(l, pg)
	got, errno := interval.All(l, pg)
	if errno != api.OK || !sameAll(got, want) {
		t.Fatalf("%+v: All of %d = %+v, error %d, want %+v", l, pg, got, errno, want)
	}
	if last, errno := interval.Last(l, pg); errno != api.OK || !same(last, want[len(want)-1]) {
		t.Fatalf("%+v: Last of %d = %+v, error %d, want %+v", l, pg, last, errno, want[len(want)-1])
	}
	for _, epoch := range epochs(l) {
		before, errno := interval.Before(l, pg, epoch)
		if errno != api.OK || !sameAll(before, slowBefore(want, epoch)) {
			t.Fatalf("%+v: Before of %d and %d = %+v, error %d, want %+v", l, pg, epoch, before, errno, slowBefore(want, epoch))
		}
	}
	return got
}

// epochs are those of maps, some ahead of these and behind, and such as no map has.
func epochs(l []api.Map) []int {
	out := []int{math.MinInt, math.MinInt + 1, -1 << 32, -1, 0, 1, 1<<20 - 1, 1 << 20, 1<<20 + 1, 1 << 32, math.MaxInt}
	first, last := l[0].Epoch, l[len(l)-1].Epoch
	for epoch := first - 2; epoch <= last+2; epoch += 1 + len(l)/100 {
		out = append(out, epoch)
	}
	return out
}

// refuses looks whether all calls refuse maps, or a placement group of them.
func refuses(t testing.TB, what string, l []api.Map, pg int) {
	t.Helper()
	if got, errno := interval.All(l, pg); errno != api.ErrArg || len(got) != 0 {
		t.Errorf("%s: All of %d = %+v, error %d", what, pg, got, errno)
	}
	if got, errno := interval.Last(l, pg); errno != api.ErrArg || !same(got, api.Interval{}) {
		t.Errorf("%s: Last of %d = %+v, error %d", what, pg, got, errno)
	}
	for _, epoch := range []int{math.MinInt, -1, 0, 5, 1 << 20, math.MaxInt} {
		if got, errno := interval.Before(l, pg, epoch); errno != api.ErrArg || len(got) != 0 {
			t.Errorf("%s: Before of %d and %d = %+v, error %d", what, pg, epoch, got, errno)
		}
	}
}

// wide is OSDs that are alike, Up and In, each on a host and in a rack of its own.
func wide(p api.Pool, many int) api.Map {
	out := api.Map{Pool: p}
	for id := range many {
		out.Osds = append(out.Osds, api.Osd{Id: id, Up: true, In: true, Weight: api.One, Life: 100 + id, Boot: 1, Host: id, Rack: id})
	}
	return out
}

// behind is maps from one on, each with one OSD turned.
func behind(m api.Map, turns ...func(l []api.Osd)) []api.Map {
	out := []api.Map{m}
	for _, turn := range turns {
		next := out[len(out)-1]
		next.Epoch++
		next.Osds = slices.Clone(next.Osds)
		turn(next.Osds)
		out = append(out, next)
	}
	return out
}

// led is maps from one on, by layer 13's changes.
func led(t testing.TB, m api.Map, changes ...api.Change) []api.Map {
	t.Helper()
	out := []api.Map{m}
	for _, c := range changes {
		next, errno := atlas.Apply(out[len(out)-1], c)
		if errno != api.OK {
			t.Fatalf("%+v is refused by %d", c, errno)
		}
		out = append(out, next)
	}
	return out
}

// numbers is a stream of numbers, the same in every run.
type numbers uint64

func (n *numbers) next() uint32 {
	*n = *n*6364136223846793005 + 1442695040888963407
	return uint32(*n >> 32)
}

// below is a number from 0 to most - 1.
func (n *numbers) below(most int) int { return int(n.next() % uint32(most)) }

// anyPool is a pool that may be, more often a small one.
func (n *numbers) anyPool() api.Pool {
	k := 1 + n.below(4)
	m := 1 + n.below(3)
	if n.below(8) == 0 {
		k = 1 + n.below(31)
		m = 1 + n.below(32-k)
	}
	return api.Pool{K: k, M: m, Pgs: 1 + n.below(32), Domain: n.below(3)}
}

// anyMap is a map that may be, of a pool, on few hosts in few racks.
func (n *numbers) anyMap(p api.Pool, epoch, many int) api.Map {
	m := api.Map{Epoch: epoch, Pool: p}
	for id := range many {
		host := n.below(12)
		o := api.Osd{Id: 3 * id, Up: n.below(4) > 0, In: n.below(8) > 0, Weight: api.One, Life: 1 + n.below(2), Boot: 1 + n.below(2), Host: host, Rack: host % 5}
		if n.below(6) == 0 {
			o.Weight = n.below(1 << n.below(25))
		}
		m.Osds = append(m.Osds, o)
	}
	return m
}

// anyChange is a change of some map's OSD, or of one more.
func (n *numbers) anyChange(many int) api.Change {
	id := 3 * n.below(many+1)
	switch kind := 1 + n.below(api.ChangeKinds-1); kind {
	case api.ChangeAdd:
		host := n.below(12)
		return api.Change{Kind: kind, Osd: api.Osd{Id: id, In: true, Weight: api.One, Host: host, Rack: host % 5}}
	case api.ChangeUp:
		return api.Change{Kind: kind, Osd: api.Osd{Id: id, Life: 1 + n.below(2), Boot: 1 + n.below(3)}}
	case api.ChangeWeight:
		return api.Change{Kind: kind, Osd: api.Osd{Id: id, Weight: n.below(3) * api.One}}
	default:
		return api.Change{Kind: kind, Osd: api.Osd{Id: id}}
	}
}

// anyLed is maps, one behind the other, by layer 13's changes.
func (n *numbers) anyLed(p api.Pool, many, length int) []api.Map {
	out := []api.Map{n.anyMap(p, n.below(3), many)}
	for len(out) < length {
		if next, errno := atlas.Apply(out[len(out)-1], n.anyChange(many)); errno == api.OK {
			out = append(out, next)
		}
	}
	return out
}

// anyMaps is maps, one behind the other, that no changes lead to: OSDs come, go and turn
// many at once, or not at all.
func (n *numbers) anyMaps(p api.Pool, many, length int) []api.Map {
	from := n.below(1<<20 - length)
	out := []api.Map{n.anyMap(p, from, many)}
	for len(out) < length {
		next := out[n.below(len(out))]
		if n.below(3) == 0 {
			next = n.anyMap(p, 0, n.below(many+1))
		}
		next.Epoch = from + len(out)
		out = append(out, next)
	}
	return out
}
