package straw_test

import (
	"math"
	"slices"
	"sync"
	"testing"

	"mooring/api"
	"mooring/straw"
)

// checkChoose holds a choice against the chapter's words.
func checkChoose(t testing.TB, l []api.Weighed, x, r uint32) {
	t.Helper()
	if got, want := straw.Choose(l, x, r), slowChoose(l, x, r); got != want {
		t.Fatalf("Choose(%+v, %d, %d) = %d, want %d", l, x, r, got, want)
	}
}

// The chapter's example: of one that draws it is always chosen, also among others that
// do not draw.
func TestExample(t *testing.T) {
	wrong := wrongWeights()
	n := numbers(3)
	for _, weight := range rightWeights() {
		for _, id := range ids() {
			one := api.Weighed{Id: id, Weight: weight}
			x, r := n.next(), n.next()
			if got := straw.Choose([]api.Weighed{one}, x, r); got != 0 {
				t.Fatalf("Choose of %+v alone is %d", one, got)
			}
			l := make([]api.Weighed, 1+n.below(5))
			for i := range l {
				l[i] = api.Weighed{Id: n.below(9), Weight: wrong[n.below(len(wrong))]}
			}
			at := n.below(len(l))
			l[at] = one
			if got := straw.Choose(l, x, r); got != at {
				t.Fatalf("Choose(%+v, %d, %d) = %d, want %d", l, x, r, got, at)
			}
		}
	}
}

// Sr1: choices that were worked out elsewhere, by the chapter's words.
func TestChooseOfKnownNumbers(t *testing.T) {
	for _, known := range []struct {
		l    []api.Weighed
		r    uint32
		want []int
	}{
		{
			weighed([][2]int{{1, api.One}, {2, api.One}, {3, 2 * api.One}, {4, 0}}), 0,
			[]int{0, 2, 2, 1, 2, 2, 2, 1, 1, 0, 2, 1, 1, 1, 2, 0, 1, 0, 2, 1, 0, 2, 2, 0, 2, 2, 2, 2, 2, 2, 2, 2},
		},
		{
			weighed([][2]int{{-1, 1}, {7, heaviest}, {1<<32 + 1, 1 << 29}, {0, 5}, {9, -1}, {1, heaviest}, {3, heaviest + 1}, {4, 1 << 28}}), 3,
			[]int{1, 1, 5, 7, 7, 1, 7, 1, 5, 1, 1, 1, 5, 1, 1, 1, 1, 5, 5, 7, 1, 5, 7, 1, 1, 1, 1, 5, 1, 5, 7, 1},
		},
	} {
		for x, want := range known.want {
			if got := straw.Choose(known.l, uint32(x), known.r); got != want {
				t.Errorf("Choose(%+v, %d, %d) = %d, want %d", known.l, x, known.r, got, want)
			}
		}
	}
}

// Sr1: lists of every kind and many lengths, for many x and r.
func TestChoose(t *testing.T) {
	n := numbers(4)
	for kind := range listKinds {
		for _, length := range []int{0, 1, 2, 3, 4, 5, 8, 13, 32, 64, 100} {
			for range 10 {
				l := n.listOf(kind, length)
				for range 10 {
					checkChoose(t, l, n.next(), uint32(n.below(3000)))
				}
			}
		}
	}
	l := n.listOf(someDrawNot, 20)
	for _, x := range asked() {
		for _, r := range asked() {
			checkChoose(t, l, x, r)
		}
	}
}

// Sr1: all lists of three whose weights are edges, right ones and wrong ones.
func TestChooseAtTheEdges(t *testing.T) {
	edges := []int{math.MinInt, -1, 0, 1, 2, api.One, heaviest, heaviest + 1, math.MaxInt}
	for _, a := range edges {
		for _, b := range edges {
			for _, c := range edges {
				l := weighed([][2]int{{-5, a}, {1<<32 + 9, b}, {math.MinInt + 3, c}})
				for x := range uint32(4) {
					checkChoose(t, l, x, 2-x)
				}
			}
		}
	}
}

// Sr1, R1, R3: nobody is chosen where nobody draws; nil and the empty list are the same.
func TestChooseOfNobody(t *testing.T) {
	var none []api.Weighed
	lists := [][]api.Weighed{nil, {}, make([]api.Weighed, 0, 9), {{}}, make([]api.Weighed, 50)}
	for i, weight := range wrongWeights() {
		none = append(none, api.Weighed{Id: i, Weight: weight})
		lists = append(lists, []api.Weighed{{Id: i, Weight: weight}}, slices.Clone(none))
	}
	// Those that draw stand in the room behind the end.
	lists = append(lists, weighed([][2]int{{1, api.One}, {2, api.One}})[:0], weighed([][2]int{{1, 0}, {2, api.One}})[:1])
	for _, l := range lists {
		for _, x := range asked() {
			if got := straw.Choose(l, x, ^x); got != -1 {
				t.Fatalf("Choose(%+v, %d, %d) = %d, want -1", l, x, ^x, got)
			}
		}
		if got := straw.Total(l); got != 0 {
			t.Fatalf("Total(%+v) = %d, want 0", l, got)
		}
	}
}

// Sr1: of those whose draws are alike the first in the list is chosen: the same one some
// times over, with others about.
func TestChooseOfTheSameOneAgain(t *testing.T) {
	one := api.Weighed{Id: 3, Weight: api.One}
	for x := range uint32(200) {
		if got := straw.Choose([]api.Weighed{one, one, one}, x, 0); got != 0 {
			t.Fatalf("of three that are the same %d is chosen", got)
		}
		// 3 and 3 + 2^32 draw alike, and an end that does not draw is passed over.
		l := weighed([][2]int{{1, 0}, {3, heaviest + 1}, {3 + 1<<32, api.One}, {3, api.One}, {1, -1}})
		if got := straw.Choose(l, x, 0); got != 2 {
			t.Fatalf("Choose(%+v, %d, 0) = %d, want 2", l, x, got)
		}
	}
}

// Sr1: unlike ones whose least draws are alike, either way round.
func TestChooseOfAlikeDraws(t *testing.T) {
	n := numbers(5)
	found := 0
	for x := uint32(0); found < 200; x++ {
		if x > 200000 {
			t.Fatalf("only %d draws are alike: too little was tested", found)
		}
		l := n.listOf(heavyWeights, 12)
		places, draws := drawn(l, x, 1)
		if draws[0] != draws[1] {
			continue
		}
		found++
		first, second := places[0], places[1]
		if got := straw.Choose(l, x, 1); got != first {
			t.Fatalf("Choose(%+v, %d, 1) = %d, want %d: %d draws as much", l, x, got, first, second)
		}
		l[first], l[second] = l[second], l[first]
		if got := straw.Choose(l, x, 1); got != first {
			t.Fatalf("the other way round: Choose(%+v, %d, 1) = %d, want %d", l, x, got, first)
		}
	}
}

// Sr1: whoever draws the longest straw of all draws 0, whatever it weighs: the first of
// them is chosen, be it ever so light.
func TestChooseOfDrawsOfNothing(t *testing.T) {
	var l []api.Weighed
	for id := 1; len(l) < 4; id++ {
		if strawOf(id, 104505, 0) == 65535 {
			l = append(l, api.Weighed{Id: id, Weight: 1 << (10 * len(l))})
		}
	}
	if l[0] != (api.Weighed{Id: 1, Weight: 1}) || l[3].Weight != heaviest {
		t.Fatalf("other straws are drawn: %+v", l)
	}
	for range l {
		if got := straw.Choose(l, 104505, 0); got != 0 {
			t.Errorf("Choose(%+v) = %d, want 0", l, got)
		}
		led := slices.Insert(slices.Clone(l), 0, api.Weighed{Id: 0, Weight: heaviest})
		if got := straw.Choose(led, 104505, 0); got != 1 {
			t.Errorf("Choose(%+v) = %d, want 1", led, got)
		}
		l = append(l[1:], l[0])
	}
}

// Sr1: who weighs twice as much is chosen twice as often.
func TestChooseByWeight(t *testing.T) {
	l := weighed([][2]int{{10, api.One}, {11, 2 * api.One}, {12, 3 * api.One}, {13, 0}, {14, 4 * api.One}})
	const all = 100000
	n := make([]int, len(l))
	for x := range uint32(all) {
		n[straw.Choose(l, x, 7)]++
	}
	for i, w := range l {
		if want := all * w.Weight / straw.Total(l); n[i] < want-500 || n[i] > want+500 {
			t.Errorf("%+v is chosen %d times, want about %d", w, n[i], want)
		}
	}
}

// Sr1: for another x, and for another r, others are chosen.
func TestChooseHangsOnXAndR(t *testing.T) {
	l := listFrom(6, equalWeights, 20)
	byX, byR := map[int]int{}, map[int]int{}
	for i := range uint32(500) {
		byX[straw.Choose(l, i, 1)]++
		byR[straw.Choose(l, 1, i)]++
	}
	if len(byX) != len(l) || len(byR) != len(l) {
		t.Errorf("of %d some are never chosen: by x %v, by r %v", len(l), byX, byR)
	}
}

// R3: the list stays as it was, and the room behind its end.
func TestListsStay(t *testing.T) {
	n := numbers(7)
	for kind := range listKinds {
		whole := n.listOf(kind, 20)
		ahead := slices.Clone(whole)
		for length := range 20 {
			straw.Choose(whole[:length], n.next(), 1)
			straw.Total(whole[:length])
			straw.Choose(whole[length:], n.next(), 1)
			straw.Total(whole[length:])
		}
		if !slices.Equal(whole, ahead) {
			t.Errorf("%+v has become %+v", ahead, whole)
		}
	}
}

// R4: the same is answered again, whatever was asked ahead, and whatever others ask of
// the same list at the same time.
func TestAnswersHangOnArgumentsAlone(t *testing.T) {
	l := listFrom(8, someDrawNot, 30)
	total := int(slowTotal(l).Int64())
	var all sync.WaitGroup
	for from := range 8 {
		all.Go(func() {
			n := numbers(from % 2)
			for range 300 {
				x, r := n.next(), n.next()
				w := l[n.below(len(l))]
				draw, ok := straw.Draw(w, x, r)
				want, draws := slowDraw(w, x, r)
				if straw.Choose(l, x, r) != slowChoose(l, x, r) || straw.Total(l) != total || draw != want || ok != draws {
					t.Errorf("another answer at %d, %d", x, r)
					return
				}
			}
		})
	}
	all.Wait()
}

var keep int

func BenchmarkDraw(b *testing.B) {
	for i := range b.N {
		draw, _ := straw.Draw(api.Weighed{Id: i, Weight: api.One}, uint32(keep), 7)
		keep ^= draw
	}
}

func BenchmarkChoose(b *testing.B) {
	l := listFrom(9, equalWeights, api.MaxOsds)
	for i := range b.N {
		keep ^= straw.Choose(l, uint32(i), 7)
	}
}
