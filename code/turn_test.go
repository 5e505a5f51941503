package code_test

import (
	"bytes"
	"math"
	"testing"

	"mooring/api"
	"mooring/code"
	"mooring/gf"
)

// ends are the first data shard, the last, and one between.
func ends(k int) []int { return []int{0, k / 2, k - 1} }

// Cd3: Delta is the turned bytes times the parity shard's factor; and it is what
// the parity of fresh and the parity of old have not in common.
func TestDelta(t *testing.T) {
	n := new(numbers)
	for _, size := range sizes() {
		k, m := size[0], size[1]
		for _, i := range ends(k) {
			for _, length := range []int{0, 1, 9} {
				data := filled(n, k, length)
				fresh := filled(n, 1, length)[0]
				was := slowEncode(m, data)
				out, e := code.Delta(k, m, i, data[i], fresh)
				data[i] = fresh
				is := slowEncode(m, data)
				if e != api.OK || len(out) != m {
					t.Fatalf("K %d, M %d, i %d: %d lists, error %d", k, m, i, len(out), e)
				}
				for j := range out {
					want, _ := gf.AddMul(was[k+j], is[k+j], 1)
					if !bytes.Equal(out[j], want) {
						t.Fatalf("K %d, M %d, i %d, parity %d: %v, want %v", k, m, i, j, out[j], want)
					}
				}
			}
		}
	}
}

// Cd3: of what was not turned nothing is added.
func TestDeltaOfTheSame(t *testing.T) {
	for i := range 3 {
		out, e := code.Delta(3, 2, i, []byte{1, 2, 3}, []byte{1, 2, 3})
		if e != api.OK || !same(out, [][]byte{{0, 0, 0}, {0, 0, 0}}) {
			t.Errorf("i %d: %v, error %d", i, out, e)
		}
	}
}

// Cd3, by hand: of K 2 and M 1 the factors are 1 and 142, and 142 times 2 is 1.
func TestDeltaByHand(t *testing.T) {
	for i, want := range []byte{2, 1} {
		if out, e := code.Delta(2, 1, i, []byte{7}, []byte{5}); e != api.OK || !same(out, [][]byte{{want}}) {
			t.Errorf("i %d: %v, error %d, want %d", i, out, e, want)
		}
	}
}

// Cd3: wrong inputs.
func TestDeltaRefuses(t *testing.T) {
	for _, c := range []struct {
		what       string
		i          int
		old, fresh []byte
	}{
		{"i below 0", -1, []byte{1}, []byte{2}},
		{"i the first parity shard", 3, []byte{1}, []byte{2}},
		{"i the last parity shard", 4, []byte{1}, []byte{2}},
		{"i behind all", 5, []byte{1}, []byte{2}},
		{"i the greatest", math.MaxInt, []byte{1}, []byte{2}},
		{"i the least", math.MinInt, []byte{1}, []byte{2}},
		{"old nil", 1, nil, []byte{2}},
		{"fresh nil", 1, []byte{1}, nil},
		{"old shorter", 0, []byte{1}, []byte{2, 3}},
		{"old longer", 2, []byte{1, 2}, []byte{2}},
		{"i of no shard, and of no bytes", -1, nil, nil},
	} {
		out, e := code.Delta(3, 2, c.i, c.old, c.fresh)
		if fault := refused(out, e, api.ErrArg); fault != "" {
			t.Errorf("%s: %s", c.what, fault)
		}
	}
}

// Cd3, Cd4: Apply of a codeword is the codeword of the turned data.
func TestApply(t *testing.T) {
	n := new(numbers)
	for _, size := range sizes() {
		k, m := size[0], size[1]
		for _, i := range ends(k) {
			for _, length := range []int{0, 1, 9} {
				data := filled(n, k, length)
				was := slowEncode(m, data)
				fresh := filled(n, 1, length)[0]
				out, e := code.Apply(k, m, was, i, fresh)
				data[i] = fresh
				if e != api.OK || !same(out, slowEncode(m, data)) {
					t.Fatalf("K %d, M %d, i %d, %d bytes: error %d, or another codeword", k, m, i, length, e)
				}
			}
		}
	}
}

// Cd3: shards need not be a codeword: to what the parity shards hold Delta is
// added, and the other data shards stay.
func TestApplyToWhatIsNoCodeword(t *testing.T) {
	n := new(numbers)
	for _, size := range [][2]int{{1, 1}, {2, 1}, {3, 2}, {4, 3}} {
		k, m := size[0], size[1]
		for i := range k {
			shards, fresh := filled(n, k+m, 4), filled(n, 1, 4)[0]
			if ok, _ := code.Check(k, m, shards); ok {
				t.Fatal("a codeword by chance")
			}
			want := cloned(shards)
			want[i] = fresh
			for j := range m {
				for at := range fresh {
					want[k+j][at] ^= gf.Mul(factor(m, j, i), fresh[at]^shards[i][at])
				}
			}
			if out, e := code.Apply(k, m, shards, i, fresh); e != api.OK || !same(out, want) {
				t.Errorf("K %d, M %d, i %d: %v, error %d, want %v", k, m, i, out, e, want)
			}
		}
	}
}

// Cd4: what is turned many times is still a codeword, of which any K tell all.
func TestApplyManyTimes(t *testing.T) {
	n := new(numbers)
	data := filled(n, 4, 5)
	shards := slowEncode(3, data)
	for range 100 {
		i := n.next() % 4
		data[i] = filled(n, 1, 5)[0]
		turned, e := code.Apply(4, 3, shards, i, data[i])
		if e != api.OK {
			t.Fatalf("error %d", e)
		}
		shards = turned
	}
	if ok, e := code.Check(4, 3, shards); !ok || e != api.OK || !same(shards, slowEncode(3, data)) {
		t.Fatalf("Check = %v, error %d: %v", ok, e, shards)
	}
	out, e := code.Decode(4, 3, shards, only(7, 1, 4, 5, 6))
	if e != api.OK || !same(out[:4], data) {
		t.Errorf("Decode = %v, error %d, want %v", out, e, data)
	}
}

// Cd3: wrong inputs: what Check refuses, i, and fresh.
func TestApplyRefuses(t *testing.T) {
	for what, shards := range odd(5) {
		for i := -1; i <= 5; i++ {
			out, e := code.Apply(3, 2, shards, i, []byte{1, 2, 3})
			if fault := refused(out, e, api.ErrArg); fault != "" {
				t.Errorf("%s, i %d: %s", what, i, fault)
			}
		}
	}
	good := slowEncode(2, filled(new(numbers), 3, 3))
	for _, i := range []int{-1, 3, 4, 5, math.MaxInt, math.MinInt} {
		out, e := code.Apply(3, 2, good, i, []byte{1, 2, 3})
		if fault := refused(out, e, api.ErrArg); fault != "" {
			t.Errorf("i %d: %s", i, fault)
		}
	}
	for _, fresh := range [][]byte{nil, {}, {1, 2}, {1, 2, 3, 4}} {
		for i := range 3 {
			out, e := code.Apply(3, 2, good, i, fresh)
			if fault := refused(out, e, api.ErrArg); fault != "" {
				t.Errorf("fresh %v, i %d: %s", fresh, i, fault)
			}
		}
	}
}
