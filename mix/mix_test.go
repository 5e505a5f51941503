package mix_test

import (
	"math"
	"sync"
	"testing"

	"mooring/mix"
)

// Mi1: Mix of numbers that were worked out elsewhere, by the chapter's words.
func TestMixOfKnownNumbers(t *testing.T) {
	for _, known := range [][2]uint32{
		{0, 0},
		{1, 0x688990C0},
		{2, 0xD1132181},
		{0xFFFF, 0x33CAD8BA},
		{0x10000, 0xDCAFAE10},
		{math.MaxInt32, 0x8D29FFB8},
		{1 << 31, 0xCC4B4124},
		{math.MaxUint32, 0x6768824A},
		{0xDEADBEEF, 0xE628C683},
	} {
		if got := mix.Mix(known[0]); got != known[1] {
			t.Errorf("Mix(%X) = %X, want %X", known[0], got, known[1])
		}
	}
}

// Mi1: Hash2 of such numbers. 61C8864F and what is added are 2^32.
func TestHash2OfKnownNumbers(t *testing.T) {
	for _, known := range [][3]uint32{
		{0, 0, 0xD4B070E7},
		{1, 2, 0xFB230078},
		{2, 1, 0x2994ACC7},
		{math.MaxUint32, math.MaxUint32, 0xBE870166},
		{0, math.MaxUint32, 0xF64F1722},
		{math.MaxUint32, 0, 0xA3EF8078},
		{0x61C8864F, 0, 0},
		{0x61C8864E, 7, 0x7546C2BC},
	} {
		if got := mix.Hash2(known[0], known[1]); got != known[2] {
			t.Errorf("Hash2(%X, %X) = %X, want %X", known[0], known[1], got, known[2])
		}
	}
}

// Mi1: Hash3 of such numbers. 7A143589 and what is added are 2^32.
func TestHash3OfKnownNumbers(t *testing.T) {
	for _, known := range [][4]uint32{
		{0, 0, 0, 0x816AC993},
		{1, 2, 3, 0x64C00337},
		{1, 2, 4, 0x271A5DBC},
		{3, 2, 1, 0x5CD67D11},
		{math.MaxUint32, math.MaxUint32, math.MaxUint32, 0xE614EEAD},
		{0, 0, math.MaxUint32, 0xAE3E357A},
		{0, 0, 0x7A143589, 0x80B32FEF},
		{0, 0, 0x7A143588, 0xB773FD69},
	} {
		if got := mix.Hash3(known[0], known[1], known[2]); got != known[3] {
			t.Errorf("Hash3(%X, %X, %X) = %X, want %X", known[0], known[1], known[2], got, known[3])
		}
	}
}

// Mi1: Mix of numbers of every size, step by step.
func TestMix(t *testing.T) {
	for _, x := range append(edges(), sizes(1, 2000)...) {
		if got, want := mix.Mix(x), slowMix(x); got != want {
			t.Fatalf("Mix(%X) = %X, want %X", x, got, want)
		}
	}
}

// Mi1: Hash2 of all pairs of the edges, and of pairs of every size.
func TestHash2(t *testing.T) {
	check := func(a, b uint32) {
		t.Helper()
		if got, want := mix.Hash2(a, b), slowHash2(a, b); got != want {
			t.Fatalf("Hash2(%X, %X) = %X, want %X", a, b, got, want)
		}
	}
	for _, a := range edges() {
		for _, b := range edges() {
			check(a, b)
		}
	}
	for _, a := range sizes(2, 5) {
		for _, b := range sizes(3, 5) {
			check(a, b)
		}
	}
}

// Mi1: Hash3 of triples, edges and numbers of every size in every place.
func TestHash3(t *testing.T) {
	some := append([]uint32{0, 1, math.MaxUint32, 0x61C8864F, 0x61C8864E, 0x7A143589, 0x7A143588}, sizes(4, 1)...)
	for _, a := range some {
		for _, b := range some {
			for _, c := range some {
				if got, want := mix.Hash3(a, b, c), slowHash3(a, b, c); got != want {
					t.Fatalf("Hash3(%X, %X, %X) = %X, want %X", a, b, c, got, want)
				}
			}
		}
	}
	for _, x := range edges() {
		for _, p := range [][3]uint32{{x, 5, 6}, {5, x, 6}, {5, 6, x}, {x, x, x}} {
			if got, want := mix.Hash3(p[0], p[1], p[2]), slowHash3(p[0], p[1], p[2]); got != want {
				t.Fatalf("Hash3(%X) = %X, want %X", p, got, want)
			}
		}
	}
}

// Mi1: which place a number stands in counts.
func TestPlacesCount(t *testing.T) {
	some := sizes(5, 1)
	for i, a := range some {
		for _, b := range some[:i] {
			if a == b {
				continue
			}
			if mix.Hash2(a, b) == mix.Hash2(b, a) {
				t.Errorf("Hash2 of %X and %X is the same either way round", a, b)
			}
			if x, y, z := mix.Hash3(a, b, 9), mix.Hash3(b, a, 9), mix.Hash3(9, a, b); x == y || y == z || x == z {
				t.Errorf("Hash3 of %X, %X and 9 is the same in another order", a, b)
			}
		}
	}
}

// R4: the same is answered again, whatever others ask at the same time.
func TestAnswersHangOnArgumentsAlone(t *testing.T) {
	var all sync.WaitGroup
	for from := range 8 {
		all.Go(func() {
			n := numbers(from % 2)
			for range 5000 {
				a, b, c := n.next(), n.next(), n.next()
				mix.Log(int(a) - int(b))
				u := int(c%65536) + 1
				log, ok := mix.Log(u)
				if mix.Mix(a) != slowMix(a) || mix.Hash2(a, b) != slowHash2(a, b) || mix.Hash3(a, b, c) != slowHash3(a, b, c) || !ok || log != slowLog(u) {
					t.Errorf("another answer at %X, %X, %X", a, b, c)
					return
				}
			}
		})
	}
	all.Wait()
}

var keep uint32

func BenchmarkHash3(b *testing.B) {
	for range b.N {
		keep = mix.Hash3(keep, 7, 8)
	}
}

func BenchmarkLog(b *testing.B) {
	for i := range b.N {
		n, _ := mix.Log(i%65536 + 1)
		keep ^= uint32(n)
	}
}
