package interval_test

import (
	"math"
	"testing"

	"mooring/api"
	"mooring/interval"
)

// In1: Enough counts the places that are no Hole, wherever they are.
func TestEnough(t *testing.T) {
	for _, known := range []struct {
		acting []int
		many   int
	}{
		{nil, 0},
		{[]int{}, 0},
		{[]int{-1}, 0},
		{[]int{0}, 1},
		{[]int{-1, -1, -1}, 0},
		{[]int{-1, 0, -1}, 1},
		{[]int{7, -1, 9}, 2},
		{[]int{-1, 3, 2, 1}, 3},
		{[]int{999, 5, 0, -1}, 3},
		{[]int{4, 3, 2, 1}, 4},
		{make([]int, 32), 32},
	} {
		// Other parts are not looked at.
		x := api.Interval{From: 3, To: 1, Acting: known.acting, Lives: []int{1}, Boots: make([]int, 40), Primary: -1}
		for k := -3; k <= 40; k++ {
			if got := interval.Enough(x, k); got != (known.many >= k) {
				t.Errorf("Enough of %v and %d is %t", known.acting, k, got)
			}
		}
		for k, want := range map[int]bool{math.MinInt: true, -1 << 32: true, 1 << 32: false, 1<<32 + 1: false, math.MaxInt: false} {
			if got := interval.Enough(x, k); got != want {
				t.Errorf("Enough of %v and %d is %t", known.acting, k, got)
			}
		}
	}
	if !interval.Enough(api.Interval{}, 0) || interval.Enough(api.Interval{}, 1) {
		t.Error("Enough of the zero interval")
	}
}

// In1: Place is where that OSD is, with that Life; Boots and the primary do not matter.
func TestPlace(t *testing.T) {
	x := api.Interval{
		Acting:  []int{7, -1, 0, 999, 3},
		Lives:   []int{4, 0, 1, 1<<31 - 1, 4},
		Boots:   []int{9, 0, 8, 7, 6},
		Primary: 7,
	}
	for want, id := range x.Acting {
		if id != -1 {
			if got := interval.Place(x, id, x.Lives[want]); got != want {
				t.Errorf("Place of %d and %d is %d, want %d", id, x.Lives[want], got, want)
			}
		}
	}
	for _, wrong := range [][2]int{
		{7, 3}, {7, 5}, {7, 0}, {7, -4}, {7, 9}, {7, 4 + 1<<32}, {7 + 1<<32, 4}, {0, 0}, {0, 4}, {0, 8}, {3, 1},
		{999, 0}, {4, 7}, {4, 4}, {1, 0}, {1, 1}, {8, 4}, {-7, 4}, {-2, 0}, {2, 0},
		{math.MaxInt, math.MaxInt}, {math.MinInt, math.MinInt}, {7, math.MaxInt}, {math.MinInt, 4},
	} {
		if got := interval.Place(x, wrong[0], wrong[1]); got != -1 {
			t.Errorf("Place of %d and %d is %d", wrong[0], wrong[1], got)
		}
	}
}

// In1: a Hole is nobody: no life has its place.
func TestPlaceOfNobody(t *testing.T) {
	x := api.Interval{Acting: []int{-1, 5, -1}, Lives: []int{0, 2, 0}, Boots: []int{0, 1, 0}, Primary: 5}
	for _, life := range []int{-1, 0, 1, 2} {
		if got := interval.Place(x, api.Hole, life); got != -1 {
			t.Errorf("Place of a Hole and %d is %d", life, got)
		}
	}
}

// In1: where an OSD comes twice, the place with that Life is told, and of two such the
// first.
func TestPlaceOfTwo(t *testing.T) {
	x := api.Interval{Acting: []int{5, 5, 5}, Lives: []int{1, 2, 2}}
	for life, want := range map[int]int{0: -1, 1: 0, 2: 1, 3: -1} {
		if got := interval.Place(x, 5, life); got != want {
			t.Errorf("Place of %d is %d, want %d", life, got, want)
		}
	}
}

// R1: intervals that no call made have no places but those with an OSD and a Life.
func TestPlaceOfAnyInterval(t *testing.T) {
	for _, known := range []struct {
		acting, lives   []int
		osd, life, want int
	}{
		{nil, nil, 0, 0, -1},
		{[]int{}, []int{}, 0, 0, -1},
		{nil, []int{3, 4}, 0, 3, -1},
		{[]int{5, 6}, nil, 5, 0, -1},
		{[]int{5, 6}, []int{1}, 5, 1, 0},
		{[]int{5, 6}, []int{1}, 6, 1, -1},
		{[]int{5, 6}, []int{1}, 6, 0, -1},
		{[]int{5}, []int{1, 2, 3}, 5, 1, 0},
		{[]int{5}, []int{1, 2, 3}, 5, 2, -1},
		{[]int{5, 6}, []int{0, 0}, 6, 0, 1},
	} {
		x := api.Interval{Acting: known.acting, Lives: known.lives}
		if got := interval.Place(x, known.osd, known.life); got != known.want {
			t.Errorf("Place of %d and %d in %+v is %d, want %d", known.osd, known.life, x, got, known.want)
		}
	}
}

// In1: Enough and Place of what All tells: as many as there are keepers, each at its own
// place.
func TestPlacesOfAll(t *testing.T) {
	n := numbers(2)
	for range 100 {
		p := n.anyPool()
		for _, x := range check(t, n.anyLed(p, 8, 10), n.below(p.Pgs)) {
			many := 0
			for i, id := range x.Acting {
				if id == -1 {
					continue
				}
				many++
				if interval.Place(x, id, x.Lives[i]) != i || interval.Place(x, id, x.Lives[i]+1) != -1 {
					t.Fatalf("%d of %+v is elsewhere", id, x)
				}
			}
			if !interval.Enough(x, many) || interval.Enough(x, many+1) {
				t.Fatalf("%d keep %+v", many, x)
			}
		}
	}
}
