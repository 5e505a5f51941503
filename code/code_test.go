package code_test

import (
	"bytes"
	"fmt"
	"math"
	"slices"
	"testing"

	"mooring/api"
	"mooring/code"
	"mooring/gf"
)

// numbers is a stream of numbers, the same in every run.
type numbers uint64

func (n *numbers) next() int {
	*n = *n*6364136223846793005 + 1442695040888963407
	return int(*n >> 33)
}

// filled is lists of bytes out of a stream.
func filled(n *numbers, lists, length int) [][]byte {
	out := make([][]byte, lists)
	for i := range out {
		out[i] = make([]byte, length)
		for j := range out[i] {
			out[i][j] = byte(n.next())
		}
	}
	return out
}

func same(a, b [][]byte) bool {
	return slices.EqualFunc(a, b, bytes.Equal)
}

func cloned(a [][]byte) [][]byte {
	out := make([][]byte, len(a))
	for i, list := range a {
		out[i] = slices.Clone(list)
	}
	return out
}

// factor is what data shard j is multiplied by in parity shard i, of a code of
// m parity shards, by the definition.
func factor(m, i, j int) byte {
	out, _ := gf.Inv(byte(i ^ (m + j)))
	return out
}

// slowEncode is the shards, byte by byte.
func slowEncode(m int, data [][]byte) [][]byte {
	out := cloned(data)
	for i := range m {
		parity := make([]byte, len(data[0]))
		for at := range parity {
			for j := range data {
				parity[at] ^= gf.Mul(factor(m, i, j), data[j][at])
			}
		}
		out = append(out, parity)
	}
	return out
}

// all is a list that says that one has n shards.
func all(n int) []bool {
	out := make([]bool, n)
	for i := range out {
		out[i] = true
	}
	return out
}

// only is a list of n that says that one has those at some places.
func only(n int, places ...int) []bool {
	out := make([]bool, n)
	for _, i := range places {
		out[i] = true
	}
	return out
}

func count(have []bool) int {
	n := 0
	for _, has := range have {
		if has {
			n++
		}
	}
	return n
}

// sizes are codes: small ones, and those at the edges.
func sizes() [][2]int {
	out := [][2]int{{1, 254}, {254, 1}, {127, 128}, {128, 127}, {10, 4}, {4, 28}, {20, 12}}
	for k := 1; k <= 5; k++ {
		for m := 1; m <= 4; m++ {
			out = append(out, [2]int{k, m})
		}
	}
	return out
}

// noCode are K and M of which there is no code.
func noCode() [][2]int {
	return [][2]int{
		{0, 1}, {1, 0}, {0, 0}, {-1, 1}, {1, -1}, {-1, -1}, {-1, 3}, {3, -1}, {0, 2}, {2, 0},
		{1, 255}, {255, 1}, {128, 128}, {255, 0}, {0, 255}, {256, 1}, {1, 256}, {257, -2}, {-2, 257},
		{math.MaxInt, 1}, {1, math.MaxInt}, {math.MaxInt, math.MaxInt}, {math.MinInt, 1}, {1, math.MinInt},
		{math.MinInt, math.MinInt}, {math.MaxInt, math.MinInt}, {math.MinInt + 2, math.MaxInt}, {math.MaxInt, math.MinInt + 4},
	}
}

// refused tells what is wrong with an answer that should be an error alone.
func refused(out [][]byte, e, want api.Errno) string {
	if e != want || len(out) != 0 {
		return fmt.Sprintf("answered %v, error %d, want error %d alone", out, e, want)
	}
	return ""
}

// Example 1 of the chapter.
func TestExample(t *testing.T) {
	want := [][]byte{{5}, {7}, {gf.Add(gf.Mul(5, 1), gf.Mul(7, 142))}}
	if out, e := code.Encode(2, 1, [][]byte{{5}, {7}}); e != api.OK || !same(out, want) {
		t.Errorf("Encode = %v, error %d, want %v", out, e, want)
	}
}

// Cd1: codewords reckoned by hand: 142 times 2 is 1, and 244 times 3 is.
func TestEncodeByHand(t *testing.T) {
	for _, c := range []struct {
		m          int
		data, want [][]byte
	}{
		{1, [][]byte{{9, 0, 255}}, [][]byte{{9, 0, 255}, {9, 0, 255}}},
		{1, [][]byte{{1, 0, 2}, {0, 2, 2}}, [][]byte{{1, 0, 2}, {0, 2, 2}, {1, 1, 3}}},
		{2, [][]byte{{2, 4, 1}}, [][]byte{{2, 4, 1}, {1, 2, 142}, {245, 247, 244}}},
	} {
		if out, e := code.Encode(len(c.data), c.m, c.data); e != api.OK || !same(out, c.want) {
			t.Errorf("Encode(%d, %d, %v) = %v, error %d, want %v", len(c.data), c.m, c.data, out, e, c.want)
		}
	}
}

// Cd1: Encode is the definition, byte by byte, and what it tells is a codeword.
func TestEncode(t *testing.T) {
	n := new(numbers)
	for _, size := range sizes() {
		k, m := size[0], size[1]
		for _, length := range []int{0, 1, 2, 17} {
			data := filled(n, k, length)
			out, e := code.Encode(k, m, data)
			if e != api.OK || !same(out, slowEncode(m, data)) {
				t.Fatalf("K %d, M %d, %d bytes: Encode is another one, error %d", k, m, length, e)
			}
			if ok, e := code.Check(k, m, out); !ok || e != api.OK {
				t.Fatalf("K %d, M %d, %d bytes: Check = %v, error %d", k, m, length, ok, e)
			}
		}
	}
}

// Cd1: nil and the empty list are the same.
func TestShardsOfNoBytes(t *testing.T) {
	for _, data := range [][][]byte{{nil, nil}, {{}, {}}, {nil, {}}, {{}, nil}} {
		out, e := code.Encode(2, 1, data)
		if e != api.OK || !same(out, [][]byte{{}, {}, {}}) {
			t.Errorf("Encode(%v) = %v, error %d", data, out, e)
		}
		if ok, e := code.Check(1, 1, data); !ok || e != api.OK {
			t.Errorf("Check(%v) = %v, error %d", data, ok, e)
		}
		for _, have := range [][]bool{{true, false}, {false, true}, {true, true}} {
			if out, e := code.Decode(1, 1, data, have); e != api.OK || !same(out, [][]byte{{}, {}}) {
				t.Errorf("Decode(%v, %v) = %v, error %d", data, have, out, e)
			}
		}
		if out, e := code.Delta(1, 2, 0, data[0], data[1]); e != api.OK || !same(out, [][]byte{{}, {}}) {
			t.Errorf("Delta(%v) = %v, error %d", data, out, e)
		}
		if out, e := code.Apply(1, 1, data, 0, data[1]); e != api.OK || !same(out, [][]byte{{}, {}}) {
			t.Errorf("Apply(%v) = %v, error %d", data, out, e)
		}
	}
}

// Cd1: one bit turned, anywhere, and it is no codeword.
func TestCheckFindsEveryBit(t *testing.T) {
	n := new(numbers)
	for _, size := range [][2]int{{1, 1}, {1, 3}, {3, 1}, {4, 3}} {
		k, m := size[0], size[1]
		shards, _ := code.Encode(k, m, filled(n, k, 5))
		for i := range shards {
			for at := range shards[i] {
				for bit := range 8 {
					shards[i][at] ^= 1 << bit
					if ok, e := code.Check(k, m, shards); ok || e != api.OK {
						t.Fatalf("K %d, M %d: bit %d of byte %d of shard %d turned: Check = %v, error %d", k, m, bit, at, i, ok, e)
					}
					shards[i][at] ^= 1 << bit
				}
			}
		}
	}
}

// Cd1: Check is whether Encode of the first K tells the same, of lists of few
// values, of which some are codewords.
func TestCheckIsEncode(t *testing.T) {
	yes := 0
	for a := range 256 {
		for b := range 256 {
			shards := [][]byte{{7}, {byte(a)}, {byte(b)}}
			want := same(slowEncode(1, shards[:2]), shards)
			if ok, e := code.Check(2, 1, shards); ok != want || e != api.OK {
				t.Fatalf("Check(%v) = %v, error %d, want %v", shards, ok, e, want)
			}
			if want {
				yes++
			}
		}
	}
	if yes != 256 {
		t.Fatalf("%d codewords, want 256", yes)
	}
}

// Cd1, Cd2, Cd3: no such code: ErrArg, whatever else is handed in.
func TestNoCode(t *testing.T) {
	n := new(numbers)
	for _, size := range noCode() {
		k, m := size[0], size[1]
		for _, lists := range []int{0, 1, 2, 3, 4, 254, 255, 256, 257} {
			shards := filled(n, lists, 2)
			what := []string{}
			out, e := code.Encode(k, m, shards)
			what = append(what, refused(out, e, api.ErrArg))
			ok, e := code.Check(k, m, shards)
			if ok || e != api.ErrArg {
				what = append(what, fmt.Sprintf("Check = %v, error %d", ok, e))
			}
			for _, have := range [][]bool{nil, make([]bool, lists), all(lists)} {
				out, e = code.Decode(k, m, shards, have)
				what = append(what, refused(out, e, api.ErrArg))
			}
			for _, i := range []int{-1, 0, 1, 2, 254, 255, 256, math.MaxInt, math.MinInt} {
				out, e = code.Delta(k, m, i, []byte{1, 2}, []byte{3, 4})
				what = append(what, refused(out, e, api.ErrArg))
				out, e = code.Apply(k, m, shards, i, []byte{3, 4})
				what = append(what, refused(out, e, api.ErrArg))
			}
			for _, fault := range what {
				if fault != "" {
					t.Fatalf("K %d, M %d, %d lists: %s", k, m, lists, fault)
				}
			}
		}
	}
}

// odd are lists that are not n, or not equally long.
func odd(n int) map[string][][]byte {
	plain := func(n int) [][]byte { return filled(new(numbers), n, 3) }
	out := map[string][][]byte{
		"nil":          nil,
		"none":         {},
		"one too few":  plain(n - 1),
		"one too many": plain(n + 1),
	}
	for i := range n {
		if n == 1 {
			break
		}
		for what, list := range map[string][]byte{"nil": nil, "empty": {}, "shorter": {1, 2}, "longer": {1, 2, 3, 4}} {
			lists := plain(n)
			lists[i] = list
			out[fmt.Sprintf("list %d is %s", i, what)] = lists
		}
	}
	return out
}

// Cd1: lists that are not K (not K + M), or not equally long.
func TestEncodeAndCheckRefuse(t *testing.T) {
	for _, size := range [][2]int{{1, 1}, {1, 2}, {2, 1}, {3, 2}} {
		k, m := size[0], size[1]
		for what, data := range odd(k) {
			out, e := code.Encode(k, m, data)
			if fault := refused(out, e, api.ErrArg); fault != "" {
				t.Errorf("Encode, K %d, M %d, %s: %s", k, m, what, fault)
			}
		}
		for what, shards := range odd(k + m) {
			if ok, e := code.Check(k, m, shards); ok || e != api.ErrArg {
				t.Errorf("Check, K %d, M %d, %s: %v, error %d", k, m, what, ok, e)
			}
		}
	}
}

// Cd2, Cd4: of all choices of shards that are left: from K on the codeword, and
// below K ErrNone.
func TestDecodeAllChoices(t *testing.T) {
	n := new(numbers)
	for k := 1; k <= 5; k++ {
		for m := 1; m <= 4; m++ {
			want := slowEncode(m, filled(n, k, 3))
			for choice := range 1 << (k + m) {
				have := make([]bool, k+m)
				lost := filled(n, k+m, 3)
				for i := range have {
					if choice>>i&1 == 1 {
						have[i], lost[i] = true, want[i]
					}
				}
				out, e := code.Decode(k, m, lost, have)
				if count(have) < k {
					if fault := refused(out, e, api.ErrNone); fault != "" {
						t.Fatalf("K %d, M %d, have %v: %s", k, m, have, fault)
					}
				} else if e != api.OK || !same(out, want) {
					t.Fatalf("K %d, M %d, have %v: Decode = %v, error %d, want %v", k, m, have, out, e, want)
				}
			}
		}
	}
}

// Cd2, Cd4: great codes, of which the first K, the last K, some K between, or all
// are left.
func TestDecodeGreatCodes(t *testing.T) {
	n := new(numbers)
	for _, size := range sizes() {
		k, m := size[0], size[1]
		for _, length := range []int{0, 1, 4} {
			want := slowEncode(m, filled(n, k, length))
			first, last, between := make([]bool, k+m), make([]bool, k+m), make([]bool, k+m)
			for i := range k {
				first[i], last[m+i] = true, true
			}
			for count(between) < k {
				between[n.next()%(k+m)] = true
			}
			for _, have := range [][]bool{first, last, between, all(k + m)} {
				lost := cloned(want)
				for i := range lost {
					if !have[i] {
						lost[i] = nil
					}
				}
				if out, e := code.Decode(k, m, lost, have); e != api.OK || !same(out, want) {
					t.Fatalf("K %d, M %d, %d bytes, have %v: error %d, or another codeword", k, m, length, have, e)
				}
			}
			few := slices.Clone(last)
			few[k+m-1] = false
			for _, have := range [][]bool{few, make([]bool, k+m)} {
				out, e := code.Decode(k, m, want, have)
				if fault := refused(out, e, api.ErrNone); fault != "" {
					t.Fatalf("K %d, M %d, have %d: %s", k, m, count(have), fault)
				}
			}
		}
	}
}

// Cd2: shards that one has not are not looked at.
func TestDecodeLooksNotAtTheOthers(t *testing.T) {
	want := slowEncode(2, filled(new(numbers), 3, 4))
	for _, have := range [][]bool{only(5, 0, 1, 2), only(5, 1, 2, 4), only(5, 2, 3, 4), only(5, 0, 2, 3, 4)} {
		for what, list := range map[string][]byte{"nil": nil, "empty": {}, "shorter": {1}, "longer": make([]byte, 99), "wrong bytes": {1, 2, 3, 4}} {
			lost := cloned(want)
			for i := range lost {
				if !have[i] {
					lost[i] = list
				}
			}
			if out, e := code.Decode(3, 2, lost, have); e != api.OK || !same(out, want) {
				t.Errorf("have %v, the others %s: Decode = %v, error %d, want %v", have, what, out, e, want)
			}
			out, e := code.Decode(3, 2, lost, only(5, 2, 4))
			if fault := refused(out, e, wantOfTwo(lost)); fault != "" {
				t.Errorf("have 2 and 4, the others %s: %s", what, fault)
			}
		}
	}
}

// wantOfTwo is the error if one has only the shards 2 and 4 of a code of K 3.
func wantOfTwo(lost [][]byte) api.Errno {
	if len(lost[2]) != len(lost[4]) {
		return api.ErrArg
	}
	return api.ErrNone
}

// Cd2: where one has more than K, the first K tell the codeword, whatever the
// others hold.
func TestDecodeByTheFirst(t *testing.T) {
	n := new(numbers)
	for _, size := range [][2]int{{1, 1}, {1, 4}, {2, 3}, {3, 3}, {4, 2}} {
		k, m := size[0], size[1]
		want := slowEncode(m, filled(n, k, 6))
		for choice := range 1 << (k + m) {
			have, mixed, seen := make([]bool, k+m), filled(n, k+m, 6), 0
			for i := range have {
				if choice>>i&1 == 0 {
					continue
				}
				have[i] = true
				if seen < k {
					mixed[i] = want[i]
				}
				seen++
			}
			if seen <= k {
				continue
			}
			if out, e := code.Decode(k, m, mixed, have); e != api.OK || !same(out, want) {
				t.Fatalf("K %d, M %d, have %v: Decode = %v, error %d, want %v", k, m, have, out, e, want)
			}
		}
	}
}

// Cd2: any K lists, at any K places, are of one codeword: it is told, with them
// in it.
func TestDecodeTellsACodeword(t *testing.T) {
	n := new(numbers)
	for range 300 {
		k, m := n.next()%9+1, n.next()%9+1
		have := make([]bool, k+m)
		for count(have) < k {
			have[n.next()%(k+m)] = true
		}
		shards := filled(n, k+m, n.next()%4)
		out, e := code.Decode(k, m, shards, have)
		if e != api.OK || !same(out, slowEncode(m, out[:k])) {
			t.Fatalf("K %d, M %d, have %v: no codeword, error %d", k, m, have, e)
		}
		for i := range have {
			if have[i] && !bytes.Equal(out[i], shards[i]) {
				t.Fatalf("K %d, M %d, have %v: shard %d is another one", k, m, have, i)
			}
		}
	}
}

// Cd2: wrong lists.
func TestDecodeRefuses(t *testing.T) {
	good := slowEncode(2, filled(new(numbers), 3, 3))
	for _, c := range []struct {
		what   string
		shards [][]byte
		have   []bool
		want   api.Errno
	}{
		{"shards nil", nil, all(5), api.ErrArg},
		{"have nil", good, nil, api.ErrArg},
		{"both nil", nil, nil, api.ErrArg},
		{"shards too few", good[:4], all(5), api.ErrArg},
		{"shards too many", append(cloned(good), []byte{1, 2, 3}), all(5), api.ErrArg},
		{"have too short", good, all(4), api.ErrArg},
		{"have too long", good, all(6), api.ErrArg},
		{"have too long, and none", good, make([]bool, 6), api.ErrArg},
		{"both too few", good[:4], all(4), api.ErrArg},
		{"both too many", append(cloned(good), []byte{1, 2, 3}), all(6), api.ErrArg},
		{"data alone", good[:3], all(3), api.ErrArg},
		{"two", good, only(5, 0, 4), api.ErrNone},
		{"none", good, only(5), api.ErrNone},
	} {
		out, e := code.Decode(3, 2, c.shards, c.have)
		if fault := refused(out, e, c.want); fault != "" {
			t.Errorf("%s: %s", c.what, fault)
		}
	}
}

// Cd2: those that one has are not equally long: ErrArg, ahead of ErrNone, and of
// those behind the first K, too.
func TestDecodeRefusesUneven(t *testing.T) {
	for choice := range 1 << 5 {
		for i := range 5 {
			for _, list := range [][]byte{nil, {}, {1, 2}, {1, 2, 3, 4}} {
				shards, have := slowEncode(2, filled(new(numbers), 3, 3)), make([]bool, 5)
				shards[i] = list
				for j := range have {
					have[j] = choice>>j&1 == 1
				}
				want := api.OK
				if have[i] && count(have) > 1 {
					want = api.ErrArg
				} else if count(have) < 3 {
					want = api.ErrNone
				}
				out, e := code.Decode(3, 2, shards, have)
				if e != want || (e != api.OK) != (len(out) == 0) {
					t.Fatalf("have %v, shard %d is %v: Decode = %v, error %d, want error %d", have, i, list, out, e, want)
				}
			}
		}
	}
}
