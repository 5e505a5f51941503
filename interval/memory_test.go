package interval_test

import (
	"slices"
	"sync"
	"testing"

	"mooring/api"
	"mooring/atlas"
	"mooring/interval"
)

// copied is maps in memory of their own.
func copied(l []api.Map) []api.Map {
	out := slices.Clone(l)
	for i := range out {
		out[i].Osds = slices.Clone(out[i].Osds)
	}
	return out
}

// equal says whether maps are alike in all.
func equal(a, b []api.Map) bool { return slices.EqualFunc(a, b, atlas.Same) }

// R3: maps that are handed in stay as they were, and those in the room behind the list's
// end; what stands there is not looked at.
func TestMapsStay(t *testing.T) {
	n := numbers(4)
	for range 40 {
		p := n.anyPool()
		whole := n.anyLed(p, 6, 12)
		was := copied(whole)
		for many := 1; many <= len(whole); many++ {
			pg := n.below(p.Pgs)
			got, errno := interval.All(whole[:many], pg)
			want, _ := interval.All(slices.Clip(copied(whole[:many])), pg)
			if errno != api.OK || !sameAll(got, want) {
				t.Fatalf("All = %+v, error %d, and with nothing behind the end %+v", got, errno, want)
			}
			interval.Last(whole[:many], pg)
			interval.Before(whole[:many], pg, n.below(14))
			interval.All(whole[:many], -1)
			interval.Last(whole[:many], p.Pgs)
			interval.Before(whole[:many], p.Pgs, 9)
		}
		if !equal(whole, was) {
			t.Fatalf("%+v has become %+v", was, whole)
		}
	}
}

// R3: the room behind a map's OSDs is neither looked at nor turned.
func TestRoomBehindOsds(t *testing.T) {
	all := wide(api.Pool{K: 2, M: 2, Pgs: 4}, 9)
	was := slices.Clone(all.Osds)
	var cut, alone []api.Map
	for many := range 10 {
		m := all
		m.Epoch = many
		m.Osds = all.Osds[:many]
		cut = append(cut, m)
		m.Osds = slices.Clip(slices.Clone(m.Osds))
		alone = append(alone, m)
	}
	for pg := range 4 {
		if got, want := check(t, cut, pg), check(t, alone, pg); !sameAll(got, want) {
			t.Fatalf("of %d %+v is told, and with nothing behind the ends %+v", pg, got, want)
		}
	}
	if !slices.Equal(all.Osds, was) {
		t.Fatalf("%+v has become %+v", was, all.Osds)
	}
}

// R3: what is answered is new memory, its spare room too: to write into a list of it turns
// no other list, no other answer and no map.
func TestAnswersAreNew(t *testing.T) {
	n := numbers(5)
	for range 30 {
		p := n.anyPool()
		maps := n.anyLed(p, 6, 8)
		was := copied(maps)
		pg, epoch := n.below(p.Pgs), n.below(10)
		want := slowAll(maps, pg)
		apart(t, want, func() []api.Interval { l, _ := interval.All(maps, pg); return l })
		apart(t, want[len(want)-1:], func() []api.Interval { x, _ := interval.Last(maps, pg); return []api.Interval{x} })
		apart(t, slowBefore(want, epoch), func() []api.Interval { l, _ := interval.Before(maps, pg, epoch); return l })
		if !equal(maps, was) {
			t.Fatalf("%+v has become %+v", was, maps)
		}
	}
}

// apart looks whether the lists of what is asked share no memory, and none with another
// answer.
func apart(t testing.TB, want []api.Interval, ask func() []api.Interval) {
	t.Helper()
	kept := ask()
	for turned := range 3 * len(want) {
		got := ask()
		scribble(lists(got)[turned])
		for i, l := range lists(want) {
			if i != turned && !slices.Equal(lists(got)[i], l) {
				t.Fatalf("to write into list %d turns list %d of %+v", turned, i, want)
			}
		}
	}
	spare := ask()
	clear(spare[:cap(spare)])
	if !sameAll(kept, want) || !sameAll(ask(), want) {
		t.Fatalf("to write into an answer turns another one: %+v, want %+v", kept, want)
	}
}

// lists are all lists of intervals.
func lists(l []api.Interval) [][]int {
	var out [][]int
	for _, x := range l {
		out = append(out, x.Acting, x.Lives, x.Boots)
	}
	return out
}

// scribble writes into a list and the room behind its end.
func scribble(l []int) {
	for i := range l[:cap(l)] {
		l[:cap(l)][i] = -77
	}
}

// R3: an answer does not turn with the maps; Enough and Place turn nothing.
func TestAnswersStay(t *testing.T) {
	maps := row()
	got, want := check(t, maps, 3), slowAll(maps, 3)
	for i := range maps {
		clear(maps[i].Osds)
	}
	clear(maps)
	for _, x := range got {
		for k := range 5 {
			interval.Enough(x, k)
			interval.Place(x, k, 100+k)
			interval.Place(x, -1, 0)
		}
	}
	if !sameAll(got, want) {
		t.Errorf("%+v, want %+v", got, want)
	}
}

// R4: the same is answered again, whatever was asked ahead, and whatever others ask of the
// same maps at the same time.
func TestAnswersHangOnArgumentsAlone(t *testing.T) {
	from := numbers(6)
	p := api.Pool{K: 2, M: 1, Pgs: 8}
	maps := from.anyLed(p, 6, 20)
	var all sync.WaitGroup
	for worker := range 8 {
		all.Go(func() {
			n := numbers(worker % 2)
			for range 30 {
				pg, many := n.below(8), 1+n.below(20)
				want := slowAll(maps[:many], pg)
				if got, errno := interval.All(maps[:many], pg); errno != api.OK || !sameAll(got, want) {
					t.Errorf("another answer of %d", pg)
				}
				if got, errno := interval.Last(maps[:many], pg); errno != api.OK || !same(got, want[len(want)-1]) {
					t.Errorf("another last one of %d", pg)
				}
			}
		})
	}
	all.Wait()
}

var keep int

func BenchmarkAll(b *testing.B) {
	from := numbers(7)
	maps := from.anyLed(api.Pool{K: 2, M: 1, Pgs: 8}, 6, 100)
	for i := range b.N {
		l, _ := interval.All(maps, i%8)
		keep ^= len(l)
	}
}

func BenchmarkLast(b *testing.B) {
	from := numbers(7)
	maps := from.anyLed(api.Pool{K: 2, M: 1, Pgs: 8}, 6, 100)
	for i := range b.N {
		x, _ := interval.Last(maps, i%8)
		keep ^= x.From
	}
}
