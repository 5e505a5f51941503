package code_test

import (
	"bytes"
	"slices"
	"testing"

	"mooring/api"
	"mooring/code"
)

// room is how many bytes lie behind a roomy list's end.
const room = 3

// roomy is lists, with room behind each one's end, and behind the end of all,
// that is not to be touched.
type roomy struct {
	all, was [][]byte
	lists    [][]byte
}

func newRoomy(a [][]byte) *roomy {
	r := new(roomy)
	for i, list := range append(cloned(a), []byte{77, 78}, []byte{88}) {
		list = append(list, byte(i), 99, 111)
		r.all = append(r.all, list)
		r.lists = append(r.lists, list[:len(list)-room])
	}
	r.was = cloned(r.all)
	r.lists = r.lists[:len(a)]
	return r
}

// changed tells whether a byte, one in the room, or a list of it is another one.
func (r *roomy) changed() bool {
	whole := r.lists[:len(r.all)]
	for i, list := range r.all {
		if len(whole[i]) != len(list)-room || &whole[i][:1][0] != &list[0] {
			return true
		}
	}
	return !same(r.all, r.was)
}

// scribble writes over lists, and over the room behind their ends.
func scribble(a [][]byte) {
	for _, list := range a {
		list = list[:cap(list)]
		for i := range list {
			list[i] ^= 0xFF
		}
	}
}

// given is what the calls below are handed.
type given struct {
	data, shards, single *roomy
	have                 []bool
}

func newGiven() *given {
	data := [][]byte{{1, 2}, {0, 0}, {5, 6}}
	return &given{
		data:   newRoomy(data),
		shards: newRoomy(slowEncode(2, data)),
		single: newRoomy([][]byte{{8, 9}, {0, 0}}),
		have:   []bool{false, true, true, true, true, true, false}[:5],
	}
}

func (g *given) changed() bool {
	return g.data.changed() || g.shards.changed() || g.single.changed() ||
		!slices.Equal(g.have[:7], []bool{false, true, true, true, true, true, false})
}

// calls are calls that answer lists.
func (g *given) calls() map[string]func() [][]byte {
	answer := func(out [][]byte, _ api.Errno) [][]byte { return out }
	shards, fresh, none := g.shards.lists, g.single.lists[0], g.single.lists[1]
	return map[string]func() [][]byte{
		"Encode":             func() [][]byte { return answer(code.Encode(3, 2, g.data.lists)) },
		"Encode, K 1":        func() [][]byte { return answer(code.Encode(1, 3, g.single.lists[:1])) },
		"Decode":             func() [][]byte { return answer(code.Decode(3, 2, shards, g.have)) },
		"Decode of all":      func() [][]byte { return answer(code.Decode(3, 2, shards, []bool{true, true, true, true, true})) },
		"Decode of the last": func() [][]byte { return answer(code.Decode(3, 2, shards, []bool{false, false, true, true, true})) },
		"Delta":              func() [][]byte { return answer(code.Delta(3, 2, 1, shards[1], fresh)) },
		"Delta of noughts":   func() [][]byte { return answer(code.Delta(3, 2, 1, none, fresh)) },
		"Delta of one, M 1":  func() [][]byte { return answer(code.Delta(1, 1, 0, none, fresh)) },
		"Delta of the same":  func() [][]byte { return answer(code.Delta(3, 2, 1, fresh, fresh)) },
		"Apply":              func() [][]byte { return answer(code.Apply(3, 2, shards, 1, fresh)) },
		"Apply of the same":  func() [][]byte { return answer(code.Apply(3, 2, shards, 2, shards[2])) },
		"Apply of another":   func() [][]byte { return answer(code.Apply(3, 2, shards, 0, shards[4])) },
	}
}

// R3: an answer is new memory, its spare room too; no two lists of it share any.
func TestAnswersAreNewMemory(t *testing.T) {
	g := newGiven()
	for what, call := range g.calls() {
		first, other := call(), call()
		want := cloned(first)
		if len(first) == 0 || !same(first, other) {
			t.Fatalf("%s answers %v, then %v", what, first, other)
		}
		for i := range first {
			scribble(first[i : i+1])
			for j := i + 1; j < len(first); j++ {
				if !bytes.Equal(first[j], want[j]) {
					t.Fatalf("%s: lists %d and %d share memory", what, i, j)
				}
			}
		}
		for i := range first[:cap(first)] {
			first[:cap(first)][i] = nil
		}
		if g.changed() {
			t.Fatalf("%s: the answer shares memory with an argument", what)
		}
		if !same(other, want) || !same(call(), want) {
			t.Fatalf("%s: two answers share memory", what)
		}
	}
}

// R3: what is handed in is not kept: what becomes of it is nothing to the answer.
func TestArgumentsAreNotKept(t *testing.T) {
	g := newGiven()
	for what, call := range g.calls() {
		out := call()
		want := cloned(out)
		for range 2 {
			scribble(g.data.all)
			scribble(g.shards.all)
			scribble(g.single.all)
			if !same(out, want) {
				t.Errorf("%s: the answer changes with an argument", what)
			}
		}
	}
}

// R3: what is handed in stays as it was, the room behind it, too, of calls that
// answer and of those that refuse.
func TestArgumentsAreLeftAlone(t *testing.T) {
	g := newGiven()
	shards, fresh, short := g.shards.lists, g.single.lists[0], g.single.lists[0][:1]
	uneven := newRoomy([][]byte{{1, 2}, {3}, {4, 5}, {6, 7}, {8, 9}})
	for _, call := range g.calls() {
		call()
	}
	code.Check(3, 2, shards)
	code.Check(2, 3, shards)
	code.Check(3, 3, shards)
	code.Check(3, 2, uneven.lists)
	code.Encode(4, 2, g.data.lists)
	code.Encode(5, 2, uneven.lists)
	code.Decode(3, 2, uneven.lists, g.have)
	code.Decode(5, 2, shards, g.have)
	code.Decode(4, 1, shards, []bool{true, false, true, false, true})
	code.Delta(3, 2, 1, fresh, short)
	code.Apply(3, 2, shards, 4, fresh)
	code.Apply(3, 2, shards, 1, short)
	code.Apply(3, 2, uneven.lists, 0, fresh)
	if g.changed() || uneven.changed() {
		t.Error("what was handed in was changed")
	}
}

// R3: lists that are handed in may be one and the same memory; those of the
// answer are not.
func TestListsThatShareMemory(t *testing.T) {
	list := []byte{3, 5, 7}
	data := [][]byte{list[:2], list[:2], list[1:]}
	shards := slowEncode(2, data)
	if out, e := code.Encode(3, 2, data); e != api.OK || !same(out, shards) {
		t.Errorf("Encode = %v, error %d", out, e)
	} else if out[0][0] = 99; out[1][0] != 3 {
		t.Error("Encode: lists of the answer share memory")
	}
	one := [][]byte{list, list, list, list}
	if ok, e := code.Check(1, 3, one); ok || e != api.OK {
		t.Errorf("Check = %v, error %d", ok, e)
	}
	out, e := code.Apply(3, 1, one, 0, list)
	if e != api.OK || !same(out, one) {
		t.Fatalf("Apply = %v, error %d", out, e)
	}
	out[0][0] = 99
	if out[1][0] != 3 || out[3][0] != 3 {
		t.Error("Apply: lists of the answer share memory")
	}
	out, e = code.Decode(2, 2, one, []bool{true, true, false, false})
	if e != api.OK || !same(out, slowEncode(2, one[:2])) {
		t.Errorf("Decode = %v, error %d", out, e)
	}
	if !bytes.Equal(list, []byte{3, 5, 7}) {
		t.Errorf("what was handed in is now %v", list)
	}
}

var keep [][]byte

func BenchmarkEncode(b *testing.B) {
	data := filled(new(numbers), 10, 4096)
	b.SetBytes(10 * 4096)
	for range b.N {
		keep, _ = code.Encode(10, 4, data)
	}
}

func BenchmarkDecode127(b *testing.B) {
	shards := filled(new(numbers), 255, 64)
	have := make([]bool, 255)
	for i := range 127 {
		have[128+i] = true
	}
	for range b.N {
		keep, _ = code.Decode(127, 128, shards, have)
	}
}
