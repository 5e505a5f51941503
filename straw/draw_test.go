package straw_test

import (
	"math"
	"testing"

	"mooring/api"
	"mooring/straw"
)

// checkDraw holds a draw against the chapter's words.
func checkDraw(t testing.TB, w api.Weighed, x, r uint32) {
	t.Helper()
	got, ok := straw.Draw(w, x, r)
	want, draws := slowDraw(w, x, r)
	if got != want || ok != draws {
		t.Fatalf("Draw(%+v, %d, %d) = %d, %v, want %d, %v", w, x, r, got, ok, want, draws)
	}
}

// Sr1: draws that were worked out elsewhere, by the chapter's words.
func TestDrawOfKnownNumbers(t *testing.T) {
	for _, known := range []struct {
		id, weight int
		x, r       uint32
		want       int
	}{
		{0, 1, 0, 0, 379116847104},
		{1, 65536, 0, 0, 2524514},
		{1, 65536, 1, 0, 21668827},
		{1, 65536, 0, 1, 58034831},
		{2, 3, 4, 5, 869350943402},
		{5, 3, 4, 2, 702199103488},
		{-1, 65536, 7, 8, 4585708},
		{4294967295, 65536, 7, 8, 4585708},
		{-2, 7, 1, 1, 493954372169},
		{4294967296, 5, 9, 9, 224996897587},
		{0, 5, 9, 9, 224996897587},
		{4294967299, 1000, 6, 7, 1974683172},
		{3, 1000, 6, 7, 1974683172},
		{math.MaxInt64, 12345, 1, 2, 65744669},
		{math.MinInt64, 12345, 1, 2, 116316547},
		{12, heaviest, 3, 4, 1023},
		{12, heaviest - 1, 3, 4, 1023},
		{12, 1, 3, 4, 1099124441088},
		{12, 2, 3, 4, 549562220544},
		{9, api.MaxWeight, math.MaxUint32, math.MaxUint32, 23747},
		{9, 65537, math.MaxUint32, 0, 5458195},
		{9, 65535, 0, math.MaxUint32, 15860639},
	} {
		w := api.Weighed{Id: known.id, Weight: known.weight}
		if got, ok := straw.Draw(w, known.x, known.r); got != known.want || !ok {
			t.Errorf("Draw(%+v, %d, %d) = %d, %v, want %d, true", w, known.x, known.r, got, ok, known.want)
		}
	}
}

// Sr1: all edges of weights, identities, x and r, those that may not be, too.
func TestDrawAtTheEdges(t *testing.T) {
	weights := append(rightWeights(), wrongWeights()...)
	for i, id := range ids() {
		for j, weight := range weights {
			w := api.Weighed{Id: id, Weight: weight}
			x, r := asked()[(i+j)%len(asked())], asked()[(i+3*j)%len(asked())]
			checkDraw(t, w, x, r)
		}
	}
	for _, x := range asked() {
		for _, r := range asked() {
			for _, id := range []int{0, -1, 1 << 32, 1<<32 + 5, math.MinInt, math.MaxInt} {
				checkDraw(t, api.Weighed{Id: id, Weight: 1}, x, r)
				checkDraw(t, api.Weighed{Id: id, Weight: 1000003}, x, r)
				checkDraw(t, api.Weighed{Id: id, Weight: heaviest}, x, r)
			}
		}
	}
}

// Sr1: draws of many, with weights of every size.
func TestDraw(t *testing.T) {
	n := numbers(1)
	for range 50000 {
		w := api.Weighed{Id: int(n.next())<<32 | int(n.next()), Weight: n.weightOfAnySize()}
		if n.below(2) == 0 {
			w.Id = n.below(100) - 30
		}
		checkDraw(t, w, n.next(), uint32(n.below(3000)))
	}
}

// Sr1, R1, R2: who draws none tells 0 and false.
func TestDrawOfWrongWeights(t *testing.T) {
	for _, weight := range wrongWeights() {
		for _, id := range ids() {
			for _, x := range asked() {
				w := api.Weighed{Id: id, Weight: weight}
				if got, ok := straw.Draw(w, x, 1); got != 0 || ok {
					t.Fatalf("Draw(%+v, %d, 1) = %d, %v, want 0, false", w, x, got, ok)
				}
			}
		}
	}
}

// Sr1: the shortest straw of all and the longest one. (30735 and 104505 are numbers for
// which 1 draws them.)
func TestDrawOfTheLongestAndTheShortest(t *testing.T) {
	const x0, x65535 = 30735, 104505
	if strawOf(1, x0, 0) != 0 || strawOf(1, x65535, 0) != 65535 {
		t.Fatal("other straws are drawn: nothing was tested")
	}
	for _, weight := range rightWeights() {
		w := api.Weighed{Id: 1, Weight: weight}
		if got, ok := straw.Draw(w, x0, 0); got != (1<<44)/weight || !ok {
			t.Errorf("Draw(%+v, %d, 0) = %d, %v, want %d, true", w, x0, got, ok, (1<<44)/weight)
		}
		if got, ok := straw.Draw(w, x65535, 0); got != 0 || !ok {
			t.Errorf("Draw(%+v, %d, 0) = %d, %v, want 0, true", w, x65535, got, ok)
		}
	}
}

// Sr1: of an identity only what is below 2^32 counts.
func TestDrawOfIdsThatAreAlike(t *testing.T) {
	for _, id := range []int{0, 1, 5, 1<<31 - 1, 1 << 31, 1<<32 - 1} {
		want, _ := straw.Draw(api.Weighed{Id: id, Weight: 77}, 3, 4)
		for _, more := range []int{1 << 32, -1 << 32, 3 << 32, -5 << 40, math.MinInt, 1 << 62} {
			w := api.Weighed{Id: id + more, Weight: 77}
			if got, ok := straw.Draw(w, 3, 4); got != want || !ok {
				t.Errorf("Draw(%+v, 3, 4) = %d, %v, want %d, true", w, got, ok, want)
			}
		}
	}
}

// Sr1, Sr2: a draw never grows where the weight does.
func TestDrawFallsByWeight(t *testing.T) {
	n := numbers(2)
	for range 500 {
		id, x, r := n.below(1000)-500, n.next(), n.next()
		for range 50 {
			light, heavy := n.weightOfAnySize(), n.weightOfAnySize()
			if light > heavy {
				light, heavy = heavy, light
			}
			more, _ := straw.Draw(api.Weighed{Id: id, Weight: light}, x, r)
			less, _ := straw.Draw(api.Weighed{Id: id, Weight: heavy}, x, r)
			if less > more || less < 0 {
				t.Fatalf("%d draws %d with %d, and %d with %d", id, more, light, less, heavy)
			}
		}
	}
}
