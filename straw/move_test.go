package straw_test

import (
	"math"
	"slices"
	"testing"

	"mooring/api"
	"mooring/straw"
)

// turned is how often who is chosen was another one, and how often it stayed.
type turned struct{ moved, stayed int }

func (c *turned) count(moved bool) {
	if moved {
		c.moved++
	} else {
		c.stayed++
	}
}

// both fails a test in which nobody ever moved, or nobody ever stayed.
func (c turned) both(t *testing.T) {
	t.Helper()
	if c.moved < 100 || c.stayed < 100 {
		t.Errorf("%d moved and %d stayed: too little was tested", c.moved, c.stayed)
	}
}

// everywhere does something at every place of lists of every kind, for many x and r.
func everywhere(from numbers, do func(l []api.Weighed, place int, x, r uint32)) {
	n := from
	for kind := range listKinds {
		for _, length := range []int{1, 2, 3, 5, 9} {
			for range 15 {
				l := n.listOf(kind, length)
				for place := range l {
					for range 15 {
						do(l, place, n.next(), uint32(n.below(3000)))
					}
				}
			}
		}
	}
}

// with is a list in which one has another weight.
func with(l []api.Weighed, place, weight int) []api.Weighed {
	out := slices.Clone(l)
	out[place].Weight = weight
	return out
}

// weights are those that one turns to, from the least on: edges, and some about its own.
func weights(own int) []int {
	out := []int{math.MinInt, -heaviest, -1, 0, 1, 2, 1000, api.One, api.MaxWeight, heaviest / 2, heaviest - 1, heaviest}
	if slowDraws(api.Weighed{Weight: own}) {
		for _, near := range []int{own - 1, own + 1, own / 2, own * 2, own / 1000, own * 1000} {
			out = append(out, min(near, heaviest))
		}
	}
	return out
}

// Sr2: if one's weight grows, whoever was chosen stays so, or that one is. (To what does
// not draw any more it does not grow here: see below.)
func TestWhoGrows(t *testing.T) {
	var c turned
	everywhere(11, func(l []api.Weighed, place int, x, r uint32) {
		ahead := straw.Choose(l, x, r)
		for _, weight := range weights(l[place].Weight) {
			if weight <= l[place].Weight {
				continue
			}
			behind := straw.Choose(with(l, place, weight), x, r)
			if behind != ahead && behind != place {
				t.Fatalf("%+v, %d, %d: with a weight of %d at %d, %d is chosen, and %d was", l, x, r, weight, place, behind, ahead)
			}
			c.count(behind != ahead)
		}
	})
	c.both(t)
}

// Sr2: if one's weight falls, whoever was chosen stays so, but that one. (From what does
// not draw yet it does not fall here: see below.)
func TestWhoFalls(t *testing.T) {
	var c turned
	everywhere(12, func(l []api.Weighed, place int, x, r uint32) {
		ahead := straw.Choose(l, x, r)
		for _, weight := range weights(l[place].Weight) {
			if weight >= l[place].Weight || l[place].Weight > heaviest {
				continue
			}
			behind := straw.Choose(with(l, place, weight), x, r)
			if behind != ahead && ahead != place {
				t.Fatalf("%+v, %d, %d: with a weight of %d at %d, %d is chosen, and %d was", l, x, r, weight, place, behind, ahead)
			}
			c.count(behind != ahead)
		}
	})
	c.both(t)
}

// Sr2: if one comes in anew, at any place, whoever was chosen stays so, or that one is.
func TestWhoComesIn(t *testing.T) {
	var c turned
	n := numbers(13)
	everywhere(14, func(l []api.Weighed, at int, x, r uint32) {
		ahead := straw.Choose(l, x, r)
		anew := n.listOf(n.below(listKinds), 1)[0]
		anew.Id = n.below(1000) - 500
		for _, place := range []int{at, len(l)} {
			stays := ahead
			if ahead >= place {
				stays++
			}
			behind := straw.Choose(slices.Insert(slices.Clone(l), place, anew), x, r)
			if behind != stays && behind != place {
				t.Fatalf("%+v, %d, %d: with %+v more at %d, %d is chosen, want %d", l, x, r, anew, place, behind, stays)
			}
			c.count(behind == place)
		}
	})
	c.both(t)
}

// Sr2: if one goes, whoever was chosen stays so, but that one; then it is who would be
// chosen without it.
func TestWhoGoes(t *testing.T) {
	var c turned
	everywhere(15, func(l []api.Weighed, place int, x, r uint32) {
		ahead := straw.Choose(l, x, r)
		behind := straw.Choose(slices.Delete(slices.Clone(l), place, place+1), x, r)
		if behind >= place {
			behind++
		}
		if ahead != place && behind != ahead {
			t.Fatalf("%+v, %d, %d: without the one at %d, %d is chosen, and %d was", l, x, r, place, behind, ahead)
		}
		places, _ := drawn(l, x, r)
		if next := append(places, -1, -1); ahead == place && behind != next[1] {
			t.Fatalf("%+v, %d, %d: without the one at %d, %d is chosen, want %d", l, x, r, place, behind, next[1])
		}
		c.count(ahead == place)
	})
	c.both(t)
}

// Sr1, Sr2: a weight above 2^30, or below 1, does not draw: who turns to it goes, and who
// turns from it comes in anew, whichever weight is the greater.
func TestWhoDrawsNoMore(t *testing.T) {
	n := numbers(16)
	wrong := wrongWeights()
	var c turned
	everywhere(17, func(l []api.Weighed, place int, x, r uint32) {
		want := straw.Choose(slices.Delete(slices.Clone(l), place, place+1), x, r)
		if want >= place {
			want++
		}
		for _, weight := range []int{0, heaviest + 1, math.MaxInt, wrong[n.below(len(wrong))]} {
			if got := straw.Choose(with(l, place, weight), x, r); got != want {
				t.Fatalf("%+v, %d, %d: with a weight of %d at %d, %d is chosen, want %d", l, x, r, weight, place, got, want)
			}
		}
		ahead := straw.Choose(l, x, r)
		if ahead != want && ahead != place {
			t.Fatalf("%+v, %d, %d: %d is chosen, and without the one at %d it is %d", l, x, r, ahead, place, want)
		}
		c.count(want != ahead)
	})
	c.both(t)
}

// orders are all orders of a list.
func orders(l []api.Weighed) [][]api.Weighed {
	if len(l) == 0 {
		return [][]api.Weighed{nil}
	}
	var out [][]api.Weighed
	for i := range l {
		for _, rest := range orders(slices.Delete(slices.Clone(l), i, i+1)) {
			out = append(out, append([]api.Weighed{l[i]}, rest...))
		}
	}
	return out
}

// leastIsOne tells whether nobody's draw is as little as that of who is chosen.
func leastIsOne(l []api.Weighed, x, r uint32) bool {
	_, draws := drawn(l, x, r)
	return len(draws) == 1 || len(draws) > 1 && draws[0] != draws[1]
}

// Sr2: in which order unlike draws stand does not matter: all orders of some.
func TestEveryOrder(t *testing.T) {
	n := numbers(18)
	tested := 0
	for kind := range listKinds {
		for length := range 6 {
			l := n.listOf(kind, length)
			all := orders(l)
			for x := range uint32(20) {
				if !leastIsOne(l, x, 3) {
					continue
				}
				tested++
				want := l[straw.Choose(l, x, 3)]
				for _, other := range all {
					if got := other[straw.Choose(other, x, 3)]; got != want {
						t.Fatalf("Of %+v, for %d, %+v is chosen, and of %+v it is %+v", l, x, want, other, got)
					}
				}
			}
		}
	}
	if tested < 200 {
		t.Errorf("only %d were tested", tested)
	}
}

// Sr2: long lists, in other orders.
func TestOtherOrders(t *testing.T) {
	n := numbers(19)
	for range 100 {
		l := n.listOf(n.below(sameOnesTwice), 2+n.below(70))
		x, r := n.next(), n.next()
		if !leastIsOne(l, x, r) {
			continue
		}
		want := l[straw.Choose(l, x, r)]
		for range 20 {
			for i := range l {
				j := i + n.below(len(l)-i)
				l[i], l[j] = l[j], l[i]
			}
			if got := l[straw.Choose(l, x, r)]; got != want {
				t.Fatalf("Of %+v, for %d and %d, %+v is chosen, want %+v", l, x, r, got, want)
			}
		}
		slices.Reverse(l)
		if got := l[straw.Choose(l, x, r)]; got != want {
			t.Fatalf("Of %+v, for %d and %d, %+v is chosen, want %+v", l, x, r, got, want)
		}
	}
}

// Sr2, as a cluster feels it: one more that weighs as much as the others takes its share
// from all of them, and nothing else moves.
func TestOneMoreTakesItsShare(t *testing.T) {
	l := listFrom(20, equalWeights, 9)
	more := slices.Concat(l, []api.Weighed{{Id: 1000, Weight: api.One}})
	const all = 20000
	taken := make([]int, len(l))
	for x := range uint32(all) {
		ahead, behind := straw.Choose(l, x, 0), straw.Choose(more, x, 0)
		if behind != ahead && behind != 9 {
			t.Fatalf("for %d, %d is chosen, and %d was", x, behind, ahead)
		}
		if behind == 9 {
			taken[ahead]++
		}
	}
	for place, n := range taken {
		if n < all/90-70 || n > all/90+70 {
			t.Errorf("of %d it takes %d, want about %d", place, n, all/90)
		}
	}
}
