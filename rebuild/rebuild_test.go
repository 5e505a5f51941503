package rebuild_test

import (
	"bytes"
	"math"
	"testing"

	"mooring/api"
	"mooring/rebuild"
)

// pools are K and M: small ones, and those at the edges of what pools may be.
func pools() [][2]int {
	return [][2]int{{1, 1}, {2, 1}, {1, 2}, {2, 2}, {3, 2}, {4, 3}, {5, 1}, {31, 1}, {1, 31}, {16, 16}, {30, 1}}
}

// lengths are an object's, of K data shards: none, about a unit, about a stripe, about the
// greatest.
func lengths(k int) []int {
	return []int{0, 1, 15, 16, 17, 16*k - 1, 16 * k, 16*k + 1, 33*k + 5, 4095, 4096}
}

// The chapter's example: Make of no objects: K + M empty shards; Read: none.
func TestExample(t *testing.T) {
	for _, p := range pools() {
		k, m := p[0], p[1]
		l, e := makes(t, k, m, nil, nil, 7)
		if e != api.OK || len(l) != k+m {
			t.Fatalf("Make: %d shards, error %d", len(l), e)
		}
		for place, s := range l {
			if text(s) != text(api.Shard{Place: place, Since: 7}) {
				t.Errorf("shard %d is %+v", place, s)
			}
		}
		if o, e := reads(t, k, m, l); e != api.OK || len(o) != 0 {
			t.Errorf("Read: %v, error %d", o, e)
		}
		if r, e := rots(t, k, m, l); e != api.OK || len(r) != 0 {
			t.Errorf("Rotten: %v, error %d", r, e)
		}
	}
}

// Rb1: chunks by hand, and sums of bytes that others reckoned.
func TestChunksByHand(t *testing.T) {
	l, e := chunks(t, 2, 1, []byte("abcdefghijklmnopqrst"))
	if e != api.OK || len(l) != 3 || string(l[0].Data) != "abcdefghijklmnop" || !bytes.Equal(l[1].Data, []byte("qrst\x00\x00\x00\x00\x00\x00\x00\x00\x00\x00\x00\x00")) {
		t.Errorf("%+v, error %d", l, e)
	}
	rising := make([]byte, 32)
	for i := range rising {
		rising[i] = byte(i)
	}
	for sum, b := range map[uint32][]byte{
		0x8A9136AA: make([]byte, 32),
		0x62A8AB43: bytes.Repeat([]byte{0xFF}, 32),
		0x46DD794E: rising,
		0:          nil,
	} {
		l, e := chunks(t, 1, 1, b)
		if e != api.OK || len(l) != 2 || l[0].Sum != sum || l[0].Size != len(b) || l[1].Size != len(b) || !bytes.Equal(l[0].Data, b) {
			t.Errorf("%v: %+v, error %d", b, l, e)
		}
	}
}

// Rb1: chunks of codes and objects at the edges, byte by byte; a code may have more shards
// than a pool.
func TestChunksOfEach(t *testing.T) {
	n := numbers(3)
	for _, size := range append(pools(), [2]int{32, 1}, [2]int{1, 32}, [2]int{20, 20}, [2]int{254, 1}, [2]int{1, 254}, [2]int{127, 128}) {
		for _, length := range lengths(size[0]) {
			length = min(length, 4096)
			if size[0]*size[1] > 1000 && length > 100 {
				length = 100
			}
			l, e := chunks(t, size[0], size[1], n.bytes(length))
			if e != api.OK || len(l) != size[0]+size[1] {
				t.Errorf("K %d, M %d: %d chunks, error %d", size[0], size[1], len(l), e)
			}
		}
	}
}

// Rb1: Chunks refuses what Split does: ErrArg ahead of ErrLong.
func TestChunksRefuses(t *testing.T) {
	for _, size := range noCode() {
		for _, length := range []int{0, 5, 4096, 4097} {
			if l, e := chunks(t, size[0], size[1], make([]byte, length)); e != api.ErrArg || len(l) != 0 {
				t.Errorf("K %d, M %d: %v, error %d", size[0], size[1], l, e)
			}
		}
	}
	for _, length := range []int{4097, 4098, 5000, 1 << 16} {
		if l, e := chunks(t, 2, 1, make([]byte, length)); e != api.ErrLong || len(l) != 0 {
			t.Errorf("%d bytes: %v, error %d", length, l, e)
		}
	}
}

// all and only are lists that say that one has all of n, and those at some places.
func all(n int) []bool {
	out := make([]bool, n)
	for i := range out {
		out[i] = true
	}
	return out
}

func only(n int, places ...int) []bool {
	out := make([]bool, n)
	for _, i := range places {
		out[i] = true
	}
	return out
}

// summed is a chunk that is sound.
func summed(size int, data []byte) api.Chunk {
	return api.Chunk{Size: size, Data: data, Sum: slowSum(data)}
}

// Rb1: an object by all choices of its chunks, of which others are not sound, or of another
// Size: just those that one has, that are sound and of Size n, count.
func TestObjectOfEach(t *testing.T) {
	n := numbers(4)
	told := map[api.Errno]int{}
	for _, size := range [][2]int{{1, 1}, {1, 2}, {2, 1}, {2, 2}, {3, 2}} {
		k, m := size[0], size[1]
		for _, length := range []int{0, 1, 16*k + 1, 50} {
			b := n.bytes(length)
			good, _ := slowChunks(k, m, b)
			for code := range pow(4, k+m) {
				l, have := make([]api.Chunk, k+m), make([]bool, k+m)
				counted := 0
				for i, c := range good {
					have[i] = true
					switch code / pow(4, i) % 4 {
					case 0:
						counted++
					case 1:
						have[i] = false
					case 2:
						c.Sum ^= 1 << n.below(32)
					case 3:
						c.Size += 1 - 2*n.below(2)
					}
					l[i] = c
				}
				got, e := object(t, k, m, length, l, have)
				if counted >= k && (e != api.OK || !bytes.Equal(got, b)) || counted < k && e != api.ErrNone {
					t.Fatalf("K %d, M %d, %d bytes, %d: %v, error %d", k, m, length, code, got, e)
				}
				told[e]++
			}
		}
	}
	if told[api.OK] < 400 || told[api.ErrNone] < 400 {
		t.Errorf("%v: too little was tested", told)
	}
}

// pow is a number times itself, so often.
func pow(a, often int) int {
	out := 1
	for range often {
		out *= a
	}
	return out
}

// Rb1: each turned byte, and each turned bit of a sum, is a chunk that does not count; what
// one has not is not looked at.
func TestObjectOfTurned(t *testing.T) {
	b := []byte("some bytes of an object, a stripe and a half")
	good, _ := slowChunks(2, 1, b)
	for i := range good {
		for bit := range 32 + 8*len(good[i].Data) {
			l, _ := slowChunks(2, 1, b)
			if bit < 32 {
				l[i].Sum ^= 1 << bit
			} else {
				l[i].Data[bit/8-4] ^= 1 << (bit % 8)
			}
			if got, e := object(t, 2, 1, len(b), l, all(3)); e != api.OK || !bytes.Equal(got, b) {
				t.Fatalf("chunk %d, bit %d: %q, error %d", i, bit, got, e)
			}
			if _, e := object(t, 2, 1, len(b), l, only(3, i, (i+1)%3)); e != api.ErrNone {
				t.Fatalf("chunk %d, bit %d: error %d", i, bit, e)
			}
			if got, e := object(t, 2, 1, len(b), l, only(3, (i+1)%3, (i+2)%3)); e != api.OK || !bytes.Equal(got, b) {
				t.Fatalf("chunk %d, bit %d: %q, error %d", i, bit, got, e)
			}
		}
	}
}

// Rb1: ErrBad as Join: of what counts, one that is not as long as Length says, or what is
// not 0 behind the end; of what does not count, nothing.
func TestObjectThatIsBad(t *testing.T) {
	b := []byte("twenty bytes, by two")
	for i := range 3 {
		for _, length := range []int{0, 1, 15, 17, 32, 4097} {
			l, _ := slowChunks(2, 1, b)
			l[i] = summed(20, make([]byte, length))
			if got, e := object(t, 2, 1, 20, l, all(3)); e != api.ErrBad || len(got) != 0 {
				t.Errorf("chunk %d of %d bytes: %v, error %d", i, length, got, e)
			}
			l[i].Sum++
			if got, e := object(t, 2, 1, 20, l, all(3)); e != api.OK || !bytes.Equal(got, b) {
				t.Errorf("chunk %d of %d bytes, not sound: %v, error %d", i, length, got, e)
			}
			l[i] = summed(21, l[i].Data)
			if got, e := object(t, 2, 1, 20, l, all(3)); e != api.OK || !bytes.Equal(got, b) {
				t.Errorf("chunk %d of %d bytes, of another Size: %v, error %d", i, length, got, e)
			}
		}
	}
	l, _ := slowChunks(2, 1, append(bytes.Clone(b), 0, 0, 1))
	for i := range l {
		l[i].Size = 20
	}
	for _, have := range [][]bool{all(3), only(3, 0, 1), only(3, 0, 2), only(3, 1, 2)} {
		if got, e := object(t, 2, 1, 20, l, have); e != api.ErrBad || len(got) != 0 {
			t.Errorf("%v: not 0 behind the end: %v, error %d", have, got, e)
		}
	}
}

// Rb1: Object refuses wrong numbers and lists: ErrArg, ErrLong, ErrBad, ErrNone as Join.
func TestObjectRefuses(t *testing.T) {
	for _, size := range noCode() {
		for _, many := range []int{0, 1, 2, 3, 255, 256} {
			for _, n := range []int{-1, 0, 5, 4097} {
				if got, e := object(t, size[0], size[1], n, make([]api.Chunk, many), all(many)); e != api.ErrArg || len(got) != 0 {
					t.Errorf("K %d, M %d, %d chunks: %v, error %d", size[0], size[1], many, got, e)
				}
			}
		}
	}
	good, _ := slowChunks(2, 1, []byte("abc"))
	below, long := make([]api.Chunk, 3), make([]api.Chunk, 3)
	for i := range 3 {
		below[i].Size, long[i].Size = -1, 4097
	}
	bad := []api.Chunk{good[0], summed(3, nil), {Size: 3, Sum: 1}}
	for _, c := range []struct {
		what string
		n    int
		l    []api.Chunk
		have []bool
		want api.Errno
	}{
		{"n below 0", -1, good, all(3), api.ErrArg},
		{"n below 0, as all chunks' Size", -1, below, all(3), api.ErrArg},
		{"n the least", math.MinInt, good, all(3), api.ErrArg},
		{"a chunk too few", 3, good[:2], all(3), api.ErrArg},
		{"a chunk too many", 3, append(good[:3:3], good[0]), all(3), api.ErrArg},
		{"a have too few", 3, good, all(2), api.ErrArg},
		{"a have too many", 3, good, all(4), api.ErrArg},
		{"no chunks", 3, nil, all(3), api.ErrArg},
		{"no have", 3, good, nil, api.ErrArg},
		{"nothing", 3, nil, nil, api.ErrArg},
		{"both too few", 3, good[:2], all(2), api.ErrArg},
		{"both too many", 3, append(good[:3:3], good[0]), all(4), api.ErrArg},
		{"too long, a chunk too few", 4097, good[:2], all(3), api.ErrArg},
		{"too long", 4097, good, all(3), api.ErrLong},
		{"too long, as all chunks' Size", 4097, long, all(3), api.ErrLong},
		{"much too long, none", math.MaxInt, good, only(3), api.ErrLong},
		{"another n", 4, good, all(3), api.ErrNone},
		{"none", 3, good, only(3), api.ErrNone},
		{"one", 3, good, only(3, 2), api.ErrNone},
		{"one, and one that is not sound", 3, bad, only(3, 0, 2), api.ErrNone},
		{"one, and one of another length", 3, bad, only(3, 0, 1), api.ErrBad},
		{"one of another length", 3, bad, only(3, 1), api.ErrBad},
	} {
		if got, e := object(t, 2, 1, c.n, c.l, c.have); e != c.want || len(got) != 0 {
			t.Errorf("%s: %v, error %d, want %d alone", c.what, got, e, c.want)
		}
	}
}

// Rb1: any chunks, sound or not, by the words; codes of more shards than a pool has, too.
func TestObjectOfAny(t *testing.T) {
	n := numbers(6)
	told := map[api.Errno]int{}
	for range 20000 {
		k, m := 1+n.below(4), 1+n.below(3)
		if n.below(100) == 0 {
			k, m = 30+n.below(4), 1+n.below(9)
		}
		b := n.bytes(n.below(3) * n.below(50))
		l, _ := slowChunks(k, m, b)
		have := make([]bool, k+m)
		for i := range l {
			have[i] = n.below(5) > 0
			if n.below(6) == 0 {
				l[i] = n.turned(l[i])
			}
		}
		_, e := object(t, k, m, len(b), l, have)
		told[e]++
	}
	for errno, least := range map[api.Errno]int{api.OK: 5000, api.ErrNone: 2000, api.ErrBad: 1000} {
		if told[errno] < least {
			t.Errorf("error %d was told %d times: too little was tested", errno, told[errno])
		}
	}
}

// turned is a chunk in which something is another thing; it may be sound then.
func (n *numbers) turned(c api.Chunk) api.Chunk {
	c.Data = bytes.Clone(c.Data)
	switch kind := n.below(6); {
	case kind == 0:
		c.Sum ^= 1 << n.below(32)
	case kind == 1:
		c = summed(c.Size, n.bytes(n.below(40)))
	case kind == 2:
		c.Data = n.bytes(n.below(40))
	case kind == 3:
		c.Size = n.below(50)
	case len(c.Data) > 0:
		c.Data[n.below(len(c.Data))] ^= 1 << n.below(8)
		if kind == 4 {
			c = summed(c.Size, c.Data)
		}
	}
	return c
}

// R1: Chunks and Object of numbers of any kind end.
func TestChunksAndObjectEnd(t *testing.T) {
	for _, k := range wild() {
		for _, m := range wild() {
			if _, e := rebuild.Chunks(k, m, []byte{1, 2, 3}); (e == api.OK) != slowCode(k, m) {
				t.Fatalf("Chunks(%d, %d): error %d", k, m, e)
			}
			for _, n := range wild() {
				for _, many := range []int{0, 1, 2, 3, 17} {
					if out, e := rebuild.Object(k, m, n, make([]api.Chunk, many), make([]bool, many)); e == api.OK || len(out) != 0 {
						t.Fatalf("Object(%d, %d, %d) of %d = %v, error %d", k, m, n, many, out, e)
					}
				}
			}
		}
	}
}
