package stripe_test

import (
	"bytes"
	"slices"
	"sync"
	"testing"

	"mooring/api"
	"mooring/stripe"
)

// roomy is lists, with room behind each one's end, and behind the end of all, that
// is not to be touched.
type roomy struct {
	all, was [][]byte
	lists    [][]byte
}

// room is how many bytes lie behind a roomy list's end.
const room = 40

func newRoomy(a [][]byte) *roomy {
	r := new(roomy)
	for _, list := range append(cloned(a), []byte{77, 78}, []byte{88}) {
		list = append(list, bytes.Repeat([]byte{99}, room)...)
		r.all = append(r.all, list)
		r.lists = append(r.lists, list[:len(list)-room])
	}
	r.was = cloned(r.all)
	r.lists = r.lists[:len(a)]
	return r
}

// changed tells whether a byte, one in the room, or a list of it is another one.
func (r *roomy) changed() bool {
	whole := r.lists[:len(r.all)]
	for i, list := range r.all {
		if len(whole[i]) != len(list)-room || &whole[i][:1][0] != &list[0] {
			return true
		}
	}
	return !same(r.all, r.was)
}

// scribble writes over a list, and over the room behind its end.
func scribble(list []byte) {
	list = list[:cap(list)]
	for i := range list {
		list[i] ^= 0xFF
	}
}

// R3: Split's answer is new memory, its spare room too; no two lists of it share
// any, and none with the object; what lies behind the object's end is no part of it.
func TestSplitMemory(t *testing.T) {
	for _, size := range [][2]int{{1, 1}, {1, 3}, {2, 1}, {3, 2}} {
		for _, n := range []int{0, 1, 16, 20, 32, 48, 100} {
			b := new(numbers).object(n)
			given := newRoomy([][]byte{b})
			want := slowShards(size[0], size[1], b)
			kept, _ := stripe.Split(size[0], size[1], given.lists[0])
			out, e := stripe.Split(size[0], size[1], given.lists[0])
			if e != api.OK || !same(out, want) || given.changed() {
				t.Fatalf("%d bytes: %v, error %d, want %v", n, out, e, want)
			}
			for i := range out {
				scribble(out[i])
				for j := i + 1; j < len(out); j++ {
					if !bytes.Equal(out[j], want[j]) {
						t.Fatalf("lists %d and %d share memory", i, j)
					}
				}
			}
			clear(out[:cap(out)])
			if given.changed() {
				t.Fatal("the answer shares memory with the object")
			}
			scribble(given.all[0])
			if !same(kept, want) {
				t.Fatal("an answer shares memory with another one, or with the object")
			}
		}
	}
}

// R3: Join's answer is new memory, its spare room too; what is handed in stays, also
// what one has not, and what lies behind the ends is no part of it.
func TestJoinMemory(t *testing.T) {
	for _, size := range [][2]int{{1, 1}, {1, 3}, {2, 1}, {3, 2}} {
		k, m := size[0], size[1]
		for _, n := range []int{0, 1, 16, 20, 32, 48, 100} {
			b := new(numbers).object(n)
			shards := slowShards(k, m, b)
			for _, have := range [][]bool{all(k + m), only(k+m, first(k)...), only(k+m, first(k + 1)[1:]...)} {
				given := newRoomy(shards)
				behind := append(slices.Clone(have), true, false)
				was := slices.Clone(behind)
				kept, _ := stripe.Join(k, m, n, given.lists, behind[:k+m])
				out, e := stripe.Join(k, m, n, given.lists, behind[:k+m])
				joined(t, "with room", out, e, b)
				scribble(out)
				if given.changed() || !slices.Equal(behind, was) {
					t.Fatal("what was handed in was changed")
				}
				for _, list := range given.all {
					scribble(list)
				}
				clear(behind)
				if !bytes.Equal(kept, b) {
					t.Fatal("an answer shares memory with another one, or with a shard")
				}
			}
		}
	}
}

// R2, R3: what is refused changes nothing, either.
func TestRefusedLeavesAlone(t *testing.T) {
	given := newRoomy(slowShards(2, 1, []byte("some bytes")))
	uneven := newRoomy([][]byte{{1, 2}, {3}, {4, 5}})
	have := []bool{true, true, true, true}
	stripe.Split(2, 0, given.lists[0])
	stripe.Join(2, 1, 9, given.lists, have[:3])
	stripe.Join(2, 1, 100, given.lists, have[:3])
	stripe.Join(2, 2, 9, given.lists, have[:3])
	stripe.Join(2, 1, 4097, given.lists, have[:3])
	stripe.Join(2, 1, 9, uneven.lists, have[:3])
	stripe.Join(2, 1, 9, given.lists, []bool{false, false, true})
	if given.changed() || uneven.changed() || !slices.Equal(have, all(4)) {
		t.Error("what was handed in was changed")
	}
}

// R3: shards that are handed in may be one and the same memory.
func TestShardsThatShareMemory(t *testing.T) {
	list := []byte("a unit of bytes.")
	shards := [][]byte{list, list, list, list}
	out, e := stripe.Join(1, 3, 16, shards, all(4))
	joined(t, "shared", out, e, list)
	out, e = stripe.Join(2, 2, 32, shards, only(4, 0, 1))
	joined(t, "shared", out, e, bytes.Repeat(list, 2))
	out[0] = 'x'
	if out[16] != 'a' || list[0] != 'a' {
		t.Error("the answer shares memory")
	}
}

// R4: the same is told each time, whatever was asked ahead of it, and by many at once.
func TestTheSameEachTime(t *testing.T) {
	b := new(numbers).object(333)
	want := slowShards(3, 2, b)
	var wait sync.WaitGroup
	for i := range 8 {
		wait.Go(func() {
			for range 50 {
				shards, e := stripe.Split(3, 2, b)
				if e != api.OK || !same(shards, want) {
					t.Errorf("Split is another one, error %d", e)
				}
				stripe.Split(i+1, 2, b[:i])
				have := only(5, i%5, (i+1)%5, (i+3)%5)
				if out, e := stripe.Join(3, 2, 333, shards, have); e != api.OK || !bytes.Equal(out, b) {
					t.Errorf("Join is another one, error %d", e)
				}
			}
		})
	}
	wait.Wait()
}

var (
	keepShards [][]byte
	keepObject []byte
)

func BenchmarkSplit(b *testing.B) {
	object := new(numbers).object(4096)
	b.SetBytes(4096)
	for range b.N {
		keepShards, _ = stripe.Split(4, 2, object)
	}
}

func BenchmarkJoin(b *testing.B) {
	shards := slowShards(4, 2, new(numbers).object(4096))
	have := only(6, 1, 2, 4, 5)
	b.SetBytes(4096)
	for range b.N {
		keepObject, _ = stripe.Join(4, 2, 4096, shards, have)
	}
}

func BenchmarkJoin127(b *testing.B) {
	shards := slowShards(127, 128, new(numbers).object(4096))
	have := slices.Concat(make([]bool, 128), all(127))
	for range b.N {
		keepObject, _ = stripe.Join(127, 128, 4096, shards, have)
	}
}
