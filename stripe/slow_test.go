package stripe_test

import (
	"bytes"
	"fmt"
	"math"
	"slices"

	"mooring/api"
	"mooring/gf"
)

// numbers is a stream of numbers, the same in every run.
type numbers uint64

func (n *numbers) next() int {
	*n = *n*6364136223846793005 + 1442695040888963407
	return int(*n >> 33)
}

func (n *numbers) below(most int) int { return n.next() % most }

// object is bytes out of a stream, none of which is 0: a nought of a shard is
// filled in, then.
func (n *numbers) object(length int) []byte {
	out := make([]byte, length)
	for i := range out {
		out[i] = byte(1 + n.below(255))
	}
	return out
}

// some is a list of so many, of which it says that one has just so many.
func (n *numbers) some(all, had int) []bool {
	out := make([]bool, all)
	for had > 0 {
		if i := n.below(all); !out[i] {
			out[i], had = true, had-1
		}
	}
	return out
}

// slowLength is how many bytes a shard has: stripes are taken till they have room.
func slowLength(k, n int) int {
	length := 0
	for room := 0; room < n; room += 16 * k {
		length += 16
	}
	return length
}

// slowShards is an object's shards, byte by byte, by the words: each data byte is
// looked up in the object, each parity byte is the sum by layer 3's row.
func slowShards(k, m int, b []byte) [][]byte {
	out := make([][]byte, k+m)
	for i := range out {
		out[i] = make([]byte, slowLength(k, len(b)))
	}
	for at := range out[0] {
		stripe, within := at/16, at%16
		for i := range k {
			if from := (stripe*k+i)*16 + within; from < len(b) {
				out[i][at] = b[from]
			}
		}
		for j := range m {
			for i := range k {
				factor, _ := gf.Inv(byte(j ^ (m + i)))
				out[k+j][at] ^= gf.Mul(factor, out[i][at])
			}
		}
	}
	return out
}

// slowTouched is the stripes of n bytes that have one of some bytes, byte by byte.
func slowTouched(k, at, length int) (from, to int) {
	for i := at; i < at+length; i++ {
		stripe := 0
		for (stripe+1)*16*k <= i {
			stripe++
		}
		if i == at {
			from = stripe
		}
		to = stripe + 1
	}
	return from, to
}

func same(a, b [][]byte) bool {
	return slices.EqualFunc(a, b, bytes.Equal)
}

func cloned(a [][]byte) [][]byte {
	out := make([][]byte, len(a))
	for i, list := range a {
		out[i] = bytes.Clone(list)
	}
	return out
}

// only is a list of n that says that one has those at some places.
func only(n int, places ...int) []bool {
	out := make([]bool, n)
	for _, i := range places {
		out[i] = true
	}
	return out
}

// all is a list that says that one has n shards.
func all(n int) []bool {
	out := make([]bool, n)
	for i := range out {
		out[i] = true
	}
	return out
}

// sizes are codes: small ones, the pools' greatest ones, and those at the edges.
func sizes() [][2]int {
	out := [][2]int{{1, 254}, {254, 1}, {127, 128}, {10, 4}, {31, 1}, {1, 31}, {16, 16}, {253, 2}}
	for k := 1; k <= 5; k++ {
		for m := 1; m <= 3; m++ {
			out = append(out, [2]int{k, m})
		}
	}
	return out
}

// lengths are an object's, of K data shards: none, about a unit, about a stripe,
// about some stripes, about the greatest.
func lengths(k int) []int {
	stripe := 16 * k
	var out []int
	for _, n := range []int{0, 1, 2, 15, 16, 17, 20, 32, stripe - 16, stripe - 1, stripe, stripe + 1, stripe + 16,
		2*stripe - 1, 2 * stripe, 2*stripe + 1, 5*stripe + 3, 1000, 4080, 4095, 4096} {
		if n <= api.MaxObject && !slices.Contains(out, n) {
			out = append(out, n)
		}
	}
	return out
}

// noCode are K and M of which there is no code.
func noCode() [][2]int {
	return [][2]int{
		{0, 1}, {1, 0}, {0, 0}, {-1, 1}, {1, -1}, {-1, -1}, {-1, 3}, {3, -1}, {0, 2}, {2, 0},
		{1, 255}, {255, 1}, {128, 128}, {255, 0}, {0, 255}, {256, 1}, {1, 256}, {257, -2}, {-2, 257}, {254, 2}, {2, 254},
		{math.MaxInt, 1}, {1, math.MaxInt}, {math.MaxInt, math.MaxInt}, {math.MinInt, 1}, {1, math.MinInt},
		{math.MinInt, math.MinInt}, {math.MaxInt, math.MinInt}, {math.MinInt + 2, math.MaxInt}, {math.MaxInt, math.MinInt + 4},
	}
}

// wild are numbers at all edges, and far beyond.
func wild() []int {
	return []int{math.MinInt, math.MinInt + 1, -4097, -256, -16, -1, 0, 1, 2, 15, 16, 17, 127, 128, 253, 254, 255, 256,
		4095, 4096, 4097, 1 << 31, 1 << 32, 1<<32 + 1, 1 << 62, math.MaxInt - 4096, math.MaxInt - 1, math.MaxInt}
}

// refused tells what is wrong with an answer that should be an error alone.
func refused[T any](out []T, e, want api.Errno) string {
	if e != want || len(out) != 0 {
		return fmt.Sprintf("answered %v, error %d, want error %d alone", out, e, want)
	}
	return ""
}
