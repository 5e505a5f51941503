package mix_test

import (
	"slices"
	"testing"

	"mooring/mix"
)

// inverse is what an odd number is multiplied with to make 1, modulo 2^32: each time
// twice as many of its lowest bits are right.
func inverse(odd uint32) uint32 {
	out := odd
	for range 5 {
		out *= 2 - odd*out
	}
	return out
}

// unmixer undoes Mix, step by step from the last one on.
func unmixer() func(uint32) uint32 {
	first, second := inverse(0x7FEB352D), inverse(0x846CA68B)
	return func(x uint32) uint32 {
		x ^= x >> 16
		x *= second
		x ^= x>>15 ^ x>>30
		x *= first
		return x ^ x>>16
	}
}

// Mi3: what Mix tells can be undone. So it is unlike for all these numbers: those about
// 0, the greatest and the middle one, and some thirty millions all over.
func TestMixCanBeUndone(t *testing.T) {
	unmix := unmixer()
	for i := range uint32(1 << 20) {
		for _, x := range []uint32{i, ^i, 1<<31 - 1<<19 + i, i << 12} {
			if back := unmix(mix.Mix(x)); back != x {
				t.Fatalf("Mix(%X) is undone as %X", x, back)
			}
		}
	}
	x := uint32(0)
	for range 1 << 25 {
		if back := unmix(mix.Mix(x)); back != x {
			t.Fatalf("Mix(%X) is undone as %X", x, back)
		}
		x += 4093
	}
}

// Mi3: Mix reaches every number that it is looked for at.
func TestMixReaches(t *testing.T) {
	unmix := unmixer()
	for _, y := range append(edges(), sizes(6, 2000)...) {
		if got := mix.Mix(unmix(y)); got != y {
			t.Fatalf("Mix(%X) = %X, want %X", unmix(y), got, y)
		}
	}
}

// shifted is x shifted alone, without itself.
func shifted(by int) step { return func(x uint64) uint64 { return x >> by } }

// whole is a product of which nothing is taken off.
func whole(factor uint64) step { return func(x uint64) uint64 { return x * factor } }

// with is the chapter's steps, but for one.
func with(at int, other step) []step {
	out := mixSteps()
	out[at] = other
	return out
}

// alike looks for unlike numbers that come out the same behind steps.
func alike(steps []step, most int) [][2]uint32 {
	var out [][2]uint32
	first := map[uint32]uint32{}
	n := numbers(7)
	for i := range uint32(1 << 18) {
		for _, x := range []uint32{i, n.next()} {
			y := through(steps, x)
			if other, there := first[y]; there && other != x {
				out = append(out, [2]uint32{other, x})
			}
			first[y] = x
		}
		if len(out) >= most {
			break
		}
	}
	return out
}

// Mi3: unlike numbers that would be alike if a part of a step were left out (x itself
// beside x shifted, or the modulo of a product) are told unlike.
func TestUnlikeWhereAStepLacksAPart(t *testing.T) {
	for _, lack := range []struct {
		what  string
		steps []step
	}{
		{"the first xor", with(0, shifted(16))},
		{"the first product's modulo", with(1, whole(0x7FEB352D))},
		{"the second xor", with(2, shifted(15))},
		{"the second product's modulo", with(3, whole(0x846CA68B))},
		{"the third xor", with(4, shifted(16))},
	} {
		pairs := alike(lack.steps, 1000)
		if len(pairs) == 0 {
			t.Errorf("without %s no numbers are alike: nothing was tested", lack.what)
		}
		for _, p := range pairs {
			x, y := mix.Mix(p[0]), mix.Mix(p[1])
			if x == y || x != slowMix(p[0]) || y != slowMix(p[1]) {
				t.Errorf("without %s: Mix(%X) = %X and Mix(%X) = %X", lack.what, p[0], x, p[1], y)
			}
		}
	}
}

// Mi1, Mi3: with a step left out, Mix of a number would be that of another one. x is the
// number that comes out with the step left out as y does with it: x and y are unlike, and
// so is what Mix tells of them.
func TestUnlikeWhereAStepIsLeftOut(t *testing.T) {
	unmix := unmixer()
	for at := range mixSteps() {
		steps := slices.Delete(mixSteps(), at, at+1)
		found := 0
		for _, x := range append(edges(), sizes(8, 50)...) {
			out := through(steps, x)
			y := unmix(out)
			if x == y {
				continue
			}
			found++
			if mix.Mix(y) != out || mix.Mix(x) == out {
				t.Errorf("step %d left out: Mix(%X) = %X and Mix(%X) = %X, want %X of the second alone", at+1, x, mix.Mix(x), y, mix.Mix(y), out)
			}
		}
		if found < 500 {
			t.Errorf("step %d left out: only %d numbers tell it", at+1, found)
		}
	}
}

// Mi3: what stands on Mix is unlike, too, where one of its numbers is turned and the
// others stay.
func TestHashesOfOneTurnedNumber(t *testing.T) {
	for _, rest := range [][2]uint32{{0, 0}, {1, 2}, {0xFFFFFFFF, 0x61C8864F}, {0x7A143589, 0xFFFFFFFF}} {
		p, q := rest[0], rest[1]
		for what, hash := range map[string]func(x uint32) uint32{
			"Hash2's first":  func(x uint32) uint32 { return mix.Hash2(x, p) },
			"Hash2's second": func(x uint32) uint32 { return mix.Hash2(p, x) },
			"Hash3's first":  func(x uint32) uint32 { return mix.Hash3(x, p, q) },
			"Hash3's second": func(x uint32) uint32 { return mix.Hash3(p, x, q) },
			"Hash3's third":  func(x uint32) uint32 { return mix.Hash3(p, q, x) },
		} {
			seen := map[uint32]uint32{}
			for _, x := range append(edges(), sizes(9, 200)...) {
				y := hash(x)
				if other, there := seen[y]; there && other != x {
					t.Errorf("%s number %X or %X, beside %X and %X: the same", what, other, x, p, q)
				}
				seen[y] = x
			}
		}
	}
}
