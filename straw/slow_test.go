package straw_test

import (
	"math"
	"math/big"
	"math/bits"
	"slices"

	"mooring/api"
	"mooring/mix"
)

// heaviest is the greatest weight that draws.
const heaviest = 1073741824

// power is a power of 2, as a number of any size.
func power(n uint) *big.Int { return new(big.Int).Lsh(big.NewInt(1), n) }

// slowDraws is the chapter's word 'one draws'.
func slowDraws(w api.Weighed) bool {
	weight := big.NewInt(int64(w.Weight))
	return weight.Cmp(big.NewInt(1)) >= 0 && weight.Cmp(power(30)) <= 0
}

// strawOf is u of the chapter's word 'its draw': Mod is never below 0.
func strawOf(id int, x, r uint32) int {
	of := new(big.Int).Mod(big.NewInt(int64(id)), power(32))
	u := new(big.Int).SetUint64(uint64(mix.Hash3(x, uint32(of.Uint64()), r)))
	return int(u.Mod(u, power(16)).Int64())
}

// slowDraw is a draw by the chapter's words, with numbers of any size. It uses nothing
// of the package, but layer 15's calls that the words name.
func slowDraw(w api.Weighed, x, r uint32) (int, bool) {
	if !slowDraws(w) {
		return 0, false
	}
	log, ok := mix.Log(strawOf(w.Id, x, r) + 1)
	if !ok {
		panic("a straw without a logarithm")
	}
	out := new(big.Int).Mul(big.NewInt(16), power(24))
	out.Sub(out, big.NewInt(int64(log)))
	out.Mul(out, power(16))
	// Neither is below 0: so Div rounds down.
	out.Div(out, big.NewInt(int64(w.Weight)))
	return int(out.Int64()), true
}

// drawn are the places of those that draw, by their draws: those that are alike stand by
// their places.
func drawn(l []api.Weighed, x, r uint32) (places, draws []int) {
	type one struct{ place, draw int }
	var all []one
	for place, w := range l {
		if draw, ok := slowDraw(w, x, r); ok {
			all = append(all, one{place, draw})
		}
	}
	slices.SortStableFunc(all, func(a, b one) int {
		if a.draw != b.draw {
			return a.draw - b.draw
		}
		return a.place - b.place
	})
	for _, o := range all {
		places, draws = append(places, o.place), append(draws, o.draw)
	}
	return places, draws
}

// slowChoose is who is chosen by the chapter's words.
func slowChoose(l []api.Weighed, x, r uint32) int {
	places, _ := drawn(l, x, r)
	if len(places) == 0 {
		return -1
	}
	return places[0]
}

// slowTotal is the weights of those that draw, as a number of any size.
func slowTotal(l []api.Weighed) *big.Int {
	out := new(big.Int)
	for _, w := range l {
		if slowDraws(w) {
			out.Add(out, big.NewInt(int64(w.Weight)))
		}
	}
	return out
}

// numbers is a stream of numbers, the same in every run.
type numbers uint64

func (n *numbers) next() uint32 {
	*n = *n*6364136223846793005 + 1442695040888963407
	return uint32(*n >> 32)
}

// below is a number from 0 to most - 1.
func (n *numbers) below(most int) int { return int(n.next() % uint32(most)) }

// rightWeights are weights that draw: the ends, and those about every power of 2.
func rightWeights() []int {
	out := []int{1, 2, 3, 5, 7, 10, 1000, api.One, api.MaxWeight, heaviest - 1, heaviest}
	for bit := 2; bit < 30; bit++ {
		out = append(out, 1<<bit-1, 1<<bit, 1<<bit+1)
	}
	return out
}

// wrongWeights are weights that do not draw, also those whose lowest bits alone would.
func wrongWeights() []int {
	out := []int{0, -1, -2, -api.One, -heaviest, -heaviest - 1, heaviest + 1, heaviest + 2, 2 * heaviest, math.MinInt32, math.MaxInt32}
	for bit := 31; bit < bits.UintSize-1; bit++ {
		out = append(out, 1<<bit-1, 1<<bit, 1<<bit+1, 1<<bit+api.One, 1<<bit+heaviest, -1<<bit, -1<<bit+1, -1<<bit+api.One, -1<<bit-1)
	}
	return append(out, math.MinInt, math.MinInt+1, math.MinInt+api.One, math.MaxInt, math.MaxInt-1)
}

// ids are identities of every kind: negative, 0, about 2^32, and beyond.
func ids() []int {
	out := []int{0, 1, 2, 7, 12, 64, -1, -2, -7, -64, math.MinInt, math.MinInt + 1, math.MaxInt, math.MaxInt - 1}
	for _, bit := range []int{15, 16, 31, 32, 33, 48, 62} {
		out = append(out, 1<<bit-1, 1<<bit, 1<<bit+1, -1<<bit-1, -1<<bit, -1<<bit+1)
	}
	return out
}

// asked are numbers x and r to draw for.
func asked() []uint32 {
	return []uint32{0, 1, 2, 50, 0xFFFF, 0x10000, 1 << 31, math.MaxUint32 - 1, math.MaxUint32, 0x61C8864F, 0x7A143589}
}

// weightOfAnySize is a weight that draws, of 1 bit to 30, or the greatest.
func (n *numbers) weightOfAnySize() int {
	size := n.below(31)
	if size == 30 {
		return heaviest
	}
	return 1<<size | n.below(1<<size)
}

// weighed is a list of identities, each with its weight.
func weighed(rows [][2]int) []api.Weighed {
	var out []api.Weighed
	for _, row := range rows {
		out = append(out, api.Weighed{Id: row[0], Weight: row[1]})
	}
	return out
}

// The kinds of lists that listOf makes.
const (
	equalWeights  = iota // all as heavy, as hosts are that are built alike
	anyWeights           // of every size
	heavyWeights         // as heavy as may be: few draws, so some are alike
	someDrawNot          // of every size, and between them some that do not draw
	sameOnesTwice        // few unlike ones, some of them again
	listKinds
)

// listOf is a list of a kind, the same in every run.
func (n *numbers) listOf(kind, length int) []api.Weighed {
	wrong := wrongWeights()
	var out []api.Weighed
	for i := range length {
		w := api.Weighed{Id: i*5 - 7, Weight: n.weightOfAnySize()}
		switch kind {
		case equalWeights:
			w.Weight = api.One
		case heavyWeights:
			w.Weight = heaviest - n.below(1<<28)
		case someDrawNot:
			if n.below(3) == 0 {
				w.Weight = wrong[n.below(len(wrong))]
			}
		case sameOnesTwice:
			w = api.Weighed{Id: n.below(3), Weight: api.One << n.below(2)}
		}
		out = append(out, w)
	}
	return out
}

// listFrom is the first list of a stream.
func listFrom(from numbers, kind, length int) []api.Weighed { return from.listOf(kind, length) }
