package stripe_test

import (
	"bytes"
	"math"
	"testing"

	"mooring/api"
	"mooring/code"
	"mooring/stripe"
)

// Example 1 of the chapter: K 2, 20 bytes: one stripe: 16 bytes, and 4 with 12 noughts.
func TestExample(t *testing.T) {
	b := []byte("abcdefghijklmnopqrst")
	if n, e := stripe.Length(2, 20); n != 16 || e != api.OK {
		t.Errorf("Length = %d, error %d, want 16", n, e)
	}
	out, e := stripe.Split(2, 1, b)
	if e != api.OK || len(out) != 3 || string(out[0]) != "abcdefghijklmnop" ||
		string(out[1]) != "qrst\x00\x00\x00\x00\x00\x00\x00\x00\x00\x00\x00\x00" {
		t.Fatalf("Split = %q, error %d", out, e)
	}
	if ok, e := code.Check(2, 1, out); !ok || e != api.OK {
		t.Errorf("%q is no codeword", out)
	}
}

// Sp1, by hand.
func TestLengthByHand(t *testing.T) {
	for _, c := range []struct{ k, n, want int }{
		{1, 0, 0}, {1, 1, 16}, {1, 15, 16}, {1, 16, 16}, {1, 17, 32}, {1, 4096, 4096}, {1, 4095, 4096}, {1, 4080, 4080},
		{2, 0, 0}, {2, 1, 16}, {2, 16, 16}, {2, 17, 16}, {2, 32, 16}, {2, 33, 32}, {2, 4096, 2048},
		{3, 48, 16}, {3, 49, 32}, {3, 4096, 1376}, {254, 0, 0}, {254, 1, 16}, {254, 4064, 16}, {254, 4065, 32}, {254, 4096, 32},
	} {
		if n, e := stripe.Length(c.k, c.n); n != c.want || e != api.OK {
			t.Errorf("Length(%d, %d) = %d, error %d, want %d", c.k, c.n, n, e, c.want)
		}
	}
}

// Sp1: of each K, and each object.
func TestLength(t *testing.T) {
	for k := 1; k <= 254; k++ {
		for n := 0; n <= 4096; n++ {
			if length, e := stripe.Length(k, n); length != slowLength(k, n) || e != api.OK {
				t.Fatalf("Length(%d, %d) = %d, error %d, want %d", k, n, length, e, slowLength(k, n))
			}
		}
	}
}

// Sp1: wrong numbers: ErrArg goes ahead of ErrLong.
func TestLengthRefuses(t *testing.T) {
	for _, k := range wild() {
		for _, n := range wild() {
			want := api.OK
			if n > 4096 {
				want = api.ErrLong
			}
			if k < 1 || k > 254 || n < 0 {
				want = api.ErrArg
			}
			length, e := stripe.Length(k, n)
			if e != want || e != api.OK && length != 0 {
				t.Errorf("Length(%d, %d) = %d, error %d, want error %d", k, n, length, e, want)
			}
		}
	}
}

// Sp1, by hand: units go to the data shards in turn, stripe by stripe; the parity
// shards are layer 3's.
func TestSplitByHand(t *testing.T) {
	var b []byte
	for _, letter := range []byte("ABCDEFG") {
		b = append(b, bytes.Repeat([]byte{letter}, 16)...)
	}
	b = append(b, "xyz"...)
	out, e := stripe.Split(3, 2, b)
	want := [][]byte{
		[]byte("AAAAAAAAAAAAAAAADDDDDDDDDDDDDDDDGGGGGGGGGGGGGGGG"),
		[]byte("BBBBBBBBBBBBBBBBEEEEEEEEEEEEEEEExyz\x00\x00\x00\x00\x00\x00\x00\x00\x00\x00\x00\x00\x00"),
		[]byte("CCCCCCCCCCCCCCCCFFFFFFFFFFFFFFFF\x00\x00\x00\x00\x00\x00\x00\x00\x00\x00\x00\x00\x00\x00\x00\x00"),
	}
	if e != api.OK || len(out) != 5 || !same(out[:3], want) {
		t.Fatalf("Split = %q, error %d, want %q", out, e, want)
	}
	if whole, e := code.Encode(3, 2, want); e != api.OK || !same(out, whole) {
		t.Errorf("Split = %q, want %q", out, whole)
	}
}

// Sp1: Split is the words, byte by byte; its shards are a codeword of Length.
func TestSplit(t *testing.T) {
	r := new(numbers)
	for _, size := range sizes() {
		k, m := size[0], size[1]
		for _, n := range lengths(k) {
			b := r.object(n)
			out, e := stripe.Split(k, m, b)
			if e != api.OK || !same(out, slowShards(k, m, b)) {
				t.Fatalf("K %d, M %d, %d bytes: Split is another one, error %d", k, m, n, e)
			}
			if ok, e := code.Check(k, m, out); !ok || e != api.OK {
				t.Fatalf("K %d, M %d, %d bytes: no codeword, error %d", k, m, n, e)
			}
			length, _ := stripe.Length(k, n)
			for i := range out {
				if len(out[i]) != length {
					t.Fatalf("K %d, M %d, %d bytes: shard %d has %d bytes, want %d", k, m, n, i, len(out[i]), length)
				}
			}
		}
	}
}

// Sp1: an object of no bytes, nil or empty, has K + M shards of none.
func TestSplitOfNothing(t *testing.T) {
	for _, size := range sizes() {
		for _, b := range [][]byte{nil, {}} {
			out, e := stripe.Split(size[0], size[1], b)
			if e != api.OK || !same(out, make([][]byte, size[0]+size[1])) {
				t.Errorf("Split(%d, %d, of nothing) = %v, error %d", size[0], size[1], out, e)
			}
		}
	}
}

// Sp1: of noughts all shards are so, and they are as many as of any other bytes.
func TestSplitOfNoughts(t *testing.T) {
	for _, n := range []int{1, 16, 33, 4096} {
		out, e := stripe.Split(2, 2, make([]byte, n))
		if e != api.OK || !same(out, slowShards(2, 2, make([]byte, n))) {
			t.Errorf("%d noughts: %v, error %d", n, out, e)
		}
	}
}

// Sp1: wrong numbers, and objects that are too long: ErrArg goes ahead of ErrLong.
func TestSplitRefuses(t *testing.T) {
	for _, size := range noCode() {
		for _, n := range []int{0, 1, 20, 4096, 4097, 10000} {
			out, e := stripe.Split(size[0], size[1], make([]byte, n))
			if fault := refused(out, e, api.ErrArg); fault != "" {
				t.Errorf("K %d, M %d, %d bytes: %s", size[0], size[1], n, fault)
			}
		}
	}
	for _, size := range sizes() {
		for _, n := range []int{4097, 4098, 8192, 1 << 20} {
			out, e := stripe.Split(size[0], size[1], make([]byte, n))
			if fault := refused(out, e, api.ErrLong); fault != "" {
				t.Errorf("K %d, M %d, %d bytes: %s", size[0], size[1], n, fault)
			}
		}
	}
}

// Sp1, Sp2: there are just layer 3's codes, at all edges of K and M.
func TestCodes(t *testing.T) {
	for _, k := range wild() {
		for _, m := range append(wild(), 254-k, 255-k, 256-k, math.MaxInt-k) {
			want := api.ErrArg
			if k >= 1 && k <= 254 && m >= 1 && m <= 254 && k+m <= 255 {
				want = api.OK
			}
			if out, e := stripe.Split(k, m, nil); e != want || e == api.OK && len(out) != k+m {
				t.Errorf("Split(%d, %d): %d shards, error %d, want error %d", k, m, len(out), e, want)
			}
			many := 0
			if want == api.OK {
				many = k + m
			}
			if out, e := stripe.Join(k, m, 0, make([][]byte, many), all(many)); e != want || len(out) != 0 {
				t.Errorf("Join(%d, %d) = %v, error %d, want error %d", k, m, out, e, want)
			}
		}
	}
}
