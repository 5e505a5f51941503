package peer_test

import (
	"math"
	"testing"

	"mooring/api"
	"mooring/peer"
)

// The chapter's example: K 2; an interval of three; infos have it up to 5, 4, 4: its state
// up to 4, of all three. Of one that has it up to 5, and one that lacks it: the interval
// ahead.
func TestExample(t *testing.T) {
	x, ahead := kept(6, 1, 2, 3), kept(3, 1, 2, 3)
	l := []api.Interval{x, ahead}
	comes(t, "up to 5, 4, 4", l, []api.Info{told(1, 6, 5), told(2, 6, 4), told(3, 6, 4)}, 2, state(6, 4, 1, 2, 3))
	comes(t, "one that lacks it", l, []api.Info{told(1, 6, 5), told(2, 3, 9)}, 2, wait())
	comes(t, "one that lacks it, and stood ahead", l, []api.Info{told(1, 6, 5), told(2, 3, 9), told(3, 3, 8)}, 2, state(3, 8, 2, 3))
	comes(t, "one that lacks all", l, []api.Info{told(1, 6, 5), told(2, 0, 0)}, 2, empty())
}

// Pe1: Has is by Now and its Head, or by a Next and that one's.
func TestHasByHand(t *testing.T) {
	x := kept(5, 1, -1, 2)
	for _, known := range []struct {
		what  string
		i     api.Info
		head  int
		ok    bool
		lacks bool
	}{
		{"Now is it", told(1, 5, 7), 7, true, false},
		{"Now is it, without entries", told(1, 5, 0), 0, true, false},
		{"Now is it, and others stand by", told(2, 5, 7, staged(6, 8), staged(9, 3)), 7, true, false},
		{"it stands by", told(1, 3, 7, staged(5, 9)), 9, true, false},
		{"it stands by, where nothing was", told(1, 0, 0, staged(5, 9)), 9, true, false},
		{"it stands by without entries", told(1, 3, 7, staged(5, 0)), 0, true, false},
		{"it stands by as the last", told(2, 1, 7, staged(2, 1), staged(4, 3), staged(5, 9)), 9, true, false},
		{"it stands by between others", told(2, 1, 7, staged(2, 1), staged(5, 9), staged(6, 3)), 9, true, false},
		{"nothing", told(1, 0, 0), 0, false, true},
		{"elder", told(1, 4, 7), 0, false, true},
		{"elder, and others stand by", told(2, 1, 7, staged(4, 8), staged(6, 8)), 0, false, true},
		{"elder, and later ones stand by", told(2, 1, 7, staged(6, 8)), 0, false, true},
		{"later", told(1, 6, 7), 0, false, false},
		{"later, and others stand by", told(1, 6, 7, staged(7, 1)), 0, false, false},
		{"another life: Now is it", other(told(1, 5, 7)), 0, false, false},
		{"another life: it stands by", other(told(1, 3, 7, staged(5, 9))), 0, false, false},
		{"another life: elder", other(told(1, 4, 7)), 0, false, false},
		{"another life: nothing", other(told(2, 0, 0)), 0, false, false},
		{"no place: Now is it", told(3, 5, 7), 0, false, false},
		{"no place: it stands by", told(3, 1, 7, staged(5, 9)), 0, false, false},
		{"no place: elder", told(3, 4, 7), 0, false, false},
		{"the life of another place", api.Info{Osd: 1, Life: lifeOf(2), Now: 5, Head: 7}, 0, false, false},
		{"nobody has it", api.Info{Osd: -1, Now: 5, Head: 7}, 0, false, false},
		{"nobody lacks it", api.Info{Osd: -1}, 0, false, false},
		{"the zero info", api.Info{}, 0, false, false},
	} {
		if head, ok := has(t, x, known.i); head != known.head || ok != known.ok {
			t.Errorf("%s: Has is %d, %t", known.what, head, ok)
		}
		if lacks(t, x, known.i) != known.lacks {
			t.Errorf("%s: Lacks is %t", known.what, !known.lacks)
		}
	}
}

// Pe1: infos that no holder tells: what stands first counts, Now ahead of Next.
func TestHasOfAnyInfo(t *testing.T) {
	x := kept(5, 1, 2)
	for _, known := range []struct {
		i     api.Info
		head  int
		ok    bool
		lacks bool
	}{
		{told(1, 5, 7, staged(5, 8)), 7, true, false},
		{told(1, 5, 0, staged(5, 8)), 0, true, false},
		{told(1, 4, 7, staged(5, 8), staged(5, 9)), 8, true, false},
		{told(1, 4, 7, staged(9, 1), staged(5, 8), staged(2, 9)), 8, true, false},
		{told(1, 6, 7, staged(5, 8)), 8, true, false},
		{told(1, 5, -3), -3, true, false},
		{told(1, -5, 3), 0, false, true},
		{told(1, 4, math.MaxInt, staged(5, math.MinInt)), math.MinInt, true, false},
		{told(1, math.MaxInt, 3), 0, false, false},
		{told(1, math.MinInt, 3), 0, false, true},
		{told(1, 5+1<<32, 3), 0, false, false},
		{told(1, 5-1<<32, 3, staged(5+1<<32, 3)), 0, false, true},
	} {
		if head, ok := has(t, x, known.i); head != known.head || ok != known.ok {
			t.Errorf("%+v: Has is %d, %t", known.i, head, ok)
		}
		if lacks(t, x, known.i) != known.lacks {
			t.Errorf("%+v: Lacks is %t", known.i, !known.lacks)
		}
	}
}

// R1: intervals that no maps tell: places without an OSD or a life are nobody's; of From 0
// even who has nothing has it, as the words say.
func TestHasOfAnyInterval(t *testing.T) {
	for _, x := range []api.Interval{
		{},
		{From: 5},
		{From: 5, Acting: []int{1}},
		{From: 5, Lives: []int{lifeOf(1)}},
		{From: 5, Acting: []int{2, 1}, Lives: []int{lifeOf(1)}},
		{From: 5, Acting: []int{-1}, Lives: []int{0}},
	} {
		for _, i := range []api.Info{told(1, 5, 7), told(1, 0, 0), told(1, 5, 7, staged(5, 8)), {Osd: -1, Now: 5}, {Osd: -1}} {
			if head, ok := has(t, x, i); ok || head != 0 || lacks(t, x, i) {
				t.Errorf("%+v counts for %+v", i, x)
			}
		}
	}
	if head, ok := has(t, kept(0, 1, 2), told(1, 0, 4)); !ok || head != 4 || lacks(t, kept(0, 1, 2), told(1, 0, 4)) {
		t.Errorf("of From 0: %d, %t", head, ok)
	}
	// The primary, the boots and To do not matter.
	x := kept(5, 1, 2)
	x.To, x.Primary, x.Boots = -9, 77, nil
	if head, ok := has(t, x, told(2, 5, 4)); !ok || head != 4 || !lacks(t, x, told(2, 4, 4)) {
		t.Errorf("of %+v: %d, %t", x, head, ok)
	}
}

// Pe1: Has and Lacks are what the words say of all of few parts, and of any others; of an
// info that counts just one holds of these: it has it, it lacks it, it is of a later one.
func TestHasAndLacks(t *testing.T) {
	n := numbers(1)
	tally := map[[2]bool]int{}
	for range 300000 {
		x := api.Interval{From: n.some(6), Acting: []int{n.some(3), 1, -1}, Lives: []int{n.some(2) + 1, 1, 0}}
		i := n.anyInfo(3)
		_, ok := has(t, x, i)
		lack := lacks(t, x, i)
		tally[[2]bool{ok, lack}]++
		if ok && lack {
			t.Fatalf("%+v has and lacks %+v", i, x)
		}
		if slowCounts(x, i) && !ok && !lack && i.Now <= x.From {
			t.Fatalf("%+v neither has nor lacks %+v", i, x)
		}
	}
	if tally[[2]bool{true, false}] < 10000 || tally[[2]bool{false, true}] < 10000 || tally[[2]bool{false, false}] < 10000 {
		t.Errorf("%v: too little was tested", tally)
	}
}

// Pe1: Has and Lacks at all edges of each number.
func TestHasAtEdges(t *testing.T) {
	for _, from := range wild() {
		for _, now := range wild() {
			for _, next := range wild() {
				x := kept(from, 3, 4)
				has(t, x, told(3, now, 5, staged(next, 6)))
				lacks(t, x, told(3, now, 5, staged(next, 6)))
				has(t, x, other(told(3, now, 5, staged(next, 6))))
			}
			x := api.Interval{From: 5, Acting: []int{from}, Lives: []int{now}}
			i := api.Info{Osd: from, Life: now, Now: 5, Head: now}
			if head, ok := peer.Has(x, i); ok != (from != -1) || ok && head != now {
				t.Errorf("Has of %+v and %+v is %d, %t", x, i, head, ok)
			}
			has(t, x, i)
			has(t, x, api.Info{Osd: now, Life: from, Now: 5, Head: 2})
		}
	}
}
