package stripe_test

import (
	"bytes"
	"math"
	"testing"

	"mooring/api"
	"mooring/code"
	"mooring/stripe"
)

// joined tells what is wrong with an answer that should be an object.
func joined(t *testing.T, what string, out []byte, e api.Errno, want []byte) {
	t.Helper()
	if e != api.OK || !bytes.Equal(out, want) {
		t.Fatalf("%s: Join = %v, error %d, want %v", what, out, e, want)
	}
}

// holding is shards, of which those that one has not are of other lengths: they are
// not looked at.
func holding(shards [][]byte, have []bool) [][]byte {
	out := cloned(shards)
	for i, has := range have {
		if !has {
			out[i] = make([]byte, i%3*7)
		}
	}
	return out
}

// Sp2, Sp4: of small codes, and whichever of the shards are lost, as long as K are
// left: the object; if fewer: ErrNone.
func TestJoinOfEach(t *testing.T) {
	r := new(numbers)
	for _, size := range [][2]int{{1, 1}, {1, 3}, {2, 1}, {2, 2}, {3, 2}, {4, 3}, {5, 1}} {
		k, m := size[0], size[1]
		for _, n := range []int{0, 1, 16, 16*k - 1, 16 * k, 16*k + 1, 3*16*k + 5} {
			b := r.object(n)
			shards, _ := stripe.Split(k, m, b)
			for some := range 1 << (k + m) {
				have, had := make([]bool, k+m), 0
				for i := range have {
					have[i] = some>>i&1 == 1
					had += some >> i & 1
				}
				out, e := stripe.Join(k, m, n, holding(shards, have), have)
				if had >= k {
					joined(t, "of some", out, e, b)
				} else if fault := refused(out, e, api.ErrNone); fault != "" {
					t.Fatalf("K %d, M %d, %d bytes, %v: %s", k, m, n, have, fault)
				}
			}
		}
	}
}

// Sp4: of codes and objects at the edges, too, of K shards or more.
func TestJoinOfSplit(t *testing.T) {
	r := new(numbers)
	for _, size := range sizes() {
		k, m := size[0], size[1]
		for _, n := range lengths(k) {
			b := r.object(n)
			shards, e := stripe.Split(k, m, b)
			if e != api.OK {
				t.Fatalf("Split: error %d", e)
			}
			have := r.some(k+m, k)
			out, e := stripe.Join(k, m, n, holding(shards, have), have)
			joined(t, "of K", out, e, b)
			if k > 100 && n > 20 && n < 4096 {
				continue
			}
			have = r.some(k+m, k+r.below(m+1))
			out, e = stripe.Join(k, m, n, holding(shards, have), have)
			joined(t, "of K and more", out, e, b)
		}
	}
}

// Sp4: objects that end with noughts, or are all noughts, are told whole.
func TestJoinOfNoughts(t *testing.T) {
	for n := range 70 {
		b := append([]byte{7, 8, 9}[:min(n, 3)], make([]byte, max(0, n-3))...)
		for _, b := range [][]byte{b, make([]byte, n)} {
			shards, _ := stripe.Split(2, 2, b)
			for _, have := range [][]bool{all(4), only(4, 2, 3), only(4, 1, 2)} {
				out, e := stripe.Join(2, 2, n, shards, have)
				joined(t, "noughts", out, e, b)
			}
		}
	}
}

// Sp2: the n bytes are told, whichever n the shards are of: a lesser one, if what is
// behind it is 0, a greater one, as far as the last stripe goes; beyond, and of fewer
// stripes, the shards have not as many bytes as Length says.
func TestJoinOfAnotherLength(t *testing.T) {
	b := append([]byte("twelve bytes"), make([]byte, 32)...)
	b[39] = 1
	shards, _ := stripe.Split(2, 1, b)
	for n := range 200 {
		for _, have := range [][]bool{all(3), only(3, 0, 1), only(3, 0, 2), only(3, 1, 2)} {
			out, e := stripe.Join(2, 1, n, shards, have)
			if n >= 40 && n <= 64 {
				joined(t, "another length", out, e, append(bytes.Clone(b), make([]byte, 20)...)[:n])
			} else if fault := refused(out, e, api.ErrBad); fault != "" {
				t.Errorf("%d bytes, %v: %s", n, have, fault)
			}
		}
	}
}

// Sp2: each byte behind the end that is not 0 is ErrBad, wherever it lies; each byte
// ahead of it that is another one is told as it is.
func TestJoinOfTurned(t *testing.T) {
	r := new(numbers)
	for _, size := range [][2]int{{1, 1}, {2, 1}, {3, 2}, {5, 2}} {
		k, m := size[0], size[1]
		for _, n := range []int{1, 16, 17, 16*k - 1, 16 * k, 16*k + 1, 40*k - 3} {
			b := r.object(n)
			shards, _ := stripe.Split(k, m, b)
			for i := range k {
				for at := range shards[i] {
					turned := cloned(shards)
					turned[i][at] ^= byte(1 << r.below(8))
					place := (at/16*k+i)*16 + at%16
					out, e := stripe.Join(k, m, n, turned, only(k+m, first(k)...))
					if place < n {
						want := bytes.Clone(b)
						want[place] = turned[i][at]
						joined(t, "turned", out, e, want)
					} else if fault := refused(out, e, api.ErrBad); fault != "" {
						t.Fatalf("K %d, M %d, %d bytes, byte %d of shard %d: %s", k, m, n, at, i, fault)
					}
				}
			}
		}
	}
}

// first is the numbers from 0 on, so many.
func first(many int) []int {
	out := make([]int, many)
	for i := range out {
		out[i] = i
	}
	return out
}

// Sp2: what is told is what Decode tells by the first K that one has: of shards that
// are no codeword, parity shards among the first K, too.
func TestJoinOfNoCodeword(t *testing.T) {
	r := new(numbers)
	var told, bad int
	for range 3000 {
		k, m := 1+r.below(4), 1+r.below(3)
		n := r.below(70)
		shards, _ := stripe.Split(k, m, r.object(n))
		have := r.some(k+m, k+r.below(m+1))
		for i := range shards {
			if len(shards[i]) > 0 && r.below(2) == 0 {
				shards[i][r.below(len(shards[i]))] ^= byte(1 + r.below(255))
			}
		}
		decoded, _ := code.Decode(k, m, shards, have)
		whole := make([]byte, k*len(decoded[0]))
		for at := range whole {
			whole[at] = decoded[at/16%k][at/16/k*16+at%16]
		}
		out, e := stripe.Join(k, m, n, shards, have)
		if bytes.Count(whole[n:], []byte{0}) == len(whole)-n {
			joined(t, "no codeword", out, e, whole[:n])
			told++
		} else if fault := refused(out, e, api.ErrBad); fault != "" {
			t.Fatalf("K %d, M %d, %d bytes: %s", k, m, n, fault)
		} else {
			bad++
		}
	}
	if told < 100 || bad < 100 {
		t.Errorf("%d were told, %d were bad", told, bad)
	}
}

// Sp2: of the shards behind the first K only the length is looked at.
func TestJoinByTheFirst(t *testing.T) {
	b := []byte("some bytes of an object, more than a stripe has")
	shards, _ := stripe.Split(2, 3, b)
	turned := cloned(shards)
	turned[1] = bytes.Repeat([]byte{1}, len(shards[1]))
	turned[4] = bytes.Repeat([]byte{2}, len(shards[4]))
	out, e := stripe.Join(2, 3, len(b), turned, []bool{true, false, true, true, true})
	joined(t, "by the first", out, e, b)
	turned[4] = turned[4][1:]
	out, e = stripe.Join(2, 3, len(b), turned, []bool{true, false, true, true, true})
	if fault := refused(out, e, api.ErrBad); fault != "" {
		t.Error(fault)
	}
	out, e = stripe.Join(2, 3, len(b), turned, []bool{true, false, true, true, false})
	joined(t, "by the first", out, e, b)
}

// Sp2: each shard that one has, of a length that is not Length's, is ErrBad, also if
// all are alike, or if one has too few.
func TestJoinOfOtherLengths(t *testing.T) {
	b := new(numbers).object(70)
	shards, _ := stripe.Split(2, 2, b)
	for i := range shards {
		for _, length := range []int{0, 1, 16, 32, 47, 49, 64} {
			turned := cloned(shards)
			turned[i] = append(turned[i], make([]byte, 20)...)[:length]
			for some := range 16 {
				have, had := make([]bool, 4), 0
				for j := range have {
					have[j] = some>>j&1 == 1
					had += some >> j & 1
				}
				out, e := stripe.Join(2, 2, 70, turned, have)
				want := api.ErrNone
				if have[i] {
					want = api.ErrBad
				} else if had >= 2 {
					joined(t, "other lengths", out, e, b)
					continue
				}
				if fault := refused(out, e, want); fault != "" {
					t.Fatalf("shard %d of %d bytes, %v: %s", i, length, have, fault)
				}
			}
		}
	}
	for _, length := range []int{0, 16, 32, 64} {
		alike := make([][]byte, 4)
		for i := range alike {
			alike[i] = make([]byte, length)
		}
		out, e := stripe.Join(2, 2, 70, alike, all(4))
		if fault := refused(out, e, api.ErrBad); fault != "" {
			t.Errorf("all of %d bytes: %s", length, fault)
		}
	}
}

// Sp2: of an object of no bytes shards are so; one needs K of them all the same.
func TestJoinOfNothing(t *testing.T) {
	for _, none := range [][]byte{nil, {}} {
		shards := [][]byte{none, none, none}
		for _, have := range [][]bool{all(3), only(3, 0, 1), only(3, 1, 2)} {
			out, e := stripe.Join(2, 1, 0, shards, have)
			joined(t, "of nothing", out, e, nil)
		}
		for _, have := range [][]bool{only(3), only(3, 0), only(3, 2)} {
			out, e := stripe.Join(2, 1, 0, shards, have)
			if fault := refused(out, e, api.ErrNone); fault != "" {
				t.Errorf("%v: %s", have, fault)
			}
		}
		shards[1] = []byte{0}
		out, e := stripe.Join(2, 1, 0, shards, all(3))
		if fault := refused(out, e, api.ErrBad); fault != "" {
			t.Error(fault)
		}
	}
}

// Sp2: wrong numbers and lists: ErrArg goes ahead of ErrLong, that ahead of a length
// that is bad, that ahead of too few.
func TestJoinRefuses(t *testing.T) {
	for _, size := range noCode() {
		for _, many := range []int{0, 1, 2, 3, 255, 256} {
			for _, n := range []int{-1, 0, 5, 4097} {
				out, e := stripe.Join(size[0], size[1], n, make([][]byte, many), all(many))
				if fault := refused(out, e, api.ErrArg); fault != "" {
					t.Errorf("K %d, M %d, %d shards: %s", size[0], size[1], many, fault)
				}
			}
		}
	}
	good, _ := stripe.Split(2, 1, []byte("abc"))
	bad := [][]byte{{1}, {2}, {3}}
	for _, c := range []struct {
		what   string
		n      int
		shards [][]byte
		have   []bool
		want   api.Errno
	}{
		{"n below 0", -1, good, all(3), api.ErrArg},
		{"n the least", math.MinInt, good, all(3), api.ErrArg},
		{"n below 0, bad ones", -1, bad, all(3), api.ErrArg},
		{"n below 0, none", -1, good, only(3), api.ErrArg},
		{"a shard too few", 3, good[:2], all(3), api.ErrArg},
		{"a shard too many", 3, append(cloned(good), nil), all(3), api.ErrArg},
		{"no shards", 3, nil, all(3), api.ErrArg},
		{"no lists", 3, nil, nil, api.ErrArg},
		{"a have too few", 3, good, all(2), api.ErrArg},
		{"a have too many", 3, good, only(4, 0, 1), api.ErrArg},
		{"no have", 3, good, nil, api.ErrArg},
		{"both too many", 3, append(cloned(good), good[0]), all(4), api.ErrArg},
		{"both too few", 3, good[:2], all(2), api.ErrArg},
		{"too many, too long", 4097, append(cloned(good), nil), all(3), api.ErrArg},
		{"too few, too long", 4097, good, all(2), api.ErrArg},
		{"too long", 4097, good, all(3), api.ErrLong},
		{"much too long", math.MaxInt, good, all(3), api.ErrLong},
		{"too long, bad ones", 4097, bad, all(3), api.ErrLong},
		{"too long, none", 4097, good, only(3), api.ErrLong},
		{"too long, bad ones, too few", 5000, bad, only(3, 1), api.ErrLong},
		{"bad ones", 3, bad, all(3), api.ErrBad},
		{"bad ones, too few", 3, bad, only(3, 1), api.ErrBad},
		{"none, of bad ones", 3, bad, only(3), api.ErrNone},
		{"too few", 3, good, only(3, 2), api.ErrNone},
		{"too few, not 0 behind the end", 2, good, only(3, 0), api.ErrNone},
		{"not 0 behind the end", 2, good, all(3), api.ErrBad},
	} {
		out, e := stripe.Join(2, 1, c.n, c.shards, c.have)
		if fault := refused(out, e, c.want); fault != "" {
			t.Errorf("%s: %s", c.what, fault)
		}
	}
}

// R1: calls with numbers of any kind end.
func TestJoinEnds(t *testing.T) {
	for _, k := range wild() {
		for _, m := range wild() {
			for _, n := range wild() {
				for _, many := range []int{0, 1, 2, 3, 17} {
					out, e := stripe.Join(k, m, n, make([][]byte, many), make([]bool, many))
					if e == api.OK || len(out) != 0 {
						t.Fatalf("Join(%d, %d, %d) of %d = %v, error %d", k, m, n, many, out, e)
					}
				}
			}
		}
	}
}
