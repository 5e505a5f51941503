package straw_test

import (
	"math"
	"math/big"
	"slices"
	"testing"

	"mooring/api"
	"mooring/straw"
)

// Sr1: the weights of those that draw, added, and of nobody else.
func TestTotal(t *testing.T) {
	for _, known := range []struct {
		weights []int
		want    int
	}{
		{nil, 0},
		{[]int{0}, 0},
		{[]int{-1}, 0},
		{[]int{1}, 1},
		{[]int{heaviest}, heaviest},
		{[]int{heaviest + 1}, 0},
		{[]int{math.MinInt}, 0},
		{[]int{math.MaxInt}, 0},
		{[]int{1, 1, 1}, 3},
		{[]int{1, -1}, 1},
		{[]int{-5, 3, 0, 4, -9}, 7},
		{[]int{heaviest + 1, 5, heaviest, heaviest + 1}, heaviest + 5},
		{[]int{heaviest, heaviest, heaviest, heaviest}, 4294967296},
		{[]int{math.MaxInt, 1, math.MaxInt, math.MinInt, 2}, 3},
	} {
		var l []api.Weighed
		for i, weight := range known.weights {
			l = append(l, api.Weighed{Id: i, Weight: weight})
		}
		if got := straw.Total(l); got != known.want {
			t.Errorf("Total of the weights %d is %d, want %d", known.weights, got, known.want)
		}
	}
}

// Sr1: lists of every kind, and one of all edges.
func TestTotalOfManyLists(t *testing.T) {
	n := numbers(10)
	check := func(l []api.Weighed) {
		t.Helper()
		if got, want := straw.Total(l), slowTotal(l); big.NewInt(int64(got)).Cmp(want) != 0 {
			t.Fatalf("Total(%+v) = %d, want %d", l, got, want)
		}
	}
	for kind := range listKinds {
		for length := range 60 {
			check(n.listOf(kind, length))
		}
	}
	var edges []api.Weighed
	for i, weight := range slices.Concat(wrongWeights(), rightWeights(), wrongWeights()) {
		edges = append(edges, api.Weighed{Id: -i, Weight: weight})
		check(edges)
	}
}

// Sr1: a long list of the heaviest: more than 32 bits hold.
func TestTotalOfManyHeavyOnes(t *testing.T) {
	l := make([]api.Weighed, 1<<20)
	for i := range l {
		l[i].Weight = heaviest
	}
	if got := straw.Total(l); got != 1<<50 {
		t.Errorf("Total of 2^20 of the heaviest is %d, want %d", got, 1<<50)
	}
}

// Sr1: whose identities are alike counts each time, and identities do not count at all.
func TestTotalDoesNotLookAtIds(t *testing.T) {
	for _, id := range ids() {
		if got := straw.Total(weighed([][2]int{{id, 5}, {id, 5}, {id, 0}, {-id, 6}})); got != 16 {
			t.Errorf("Total with the identity %d is %d, want 16", id, got)
		}
	}
}
