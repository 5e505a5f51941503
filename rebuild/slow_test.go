package rebuild_test

import (
	"fmt"
	"maps"
	"math"
	"slices"
	"testing"

	"mooring/api"
	"mooring/code"
	"mooring/gf"
	"mooring/name"
	"mooring/rebuild"
	"mooring/shard"
)

// text is all that shards, objects or chunks tell: nil and empty lists look alike, and
// nothing else does, as long as names have no blanks.
func text(x any) string { return fmt.Sprintf("%+v", x) }

// slowSum is the sum bit by bit.
func slowSum(b []byte) uint32 {
	rest := ^uint32(0)
	for at := range 8 * len(b) {
		low := (rest ^ uint32(b[at/8]>>(at%8))) & 1
		rest = rest>>1 ^ low*0x82F63B78
	}
	return ^rest
}

func slowSound(c api.Chunk) bool { return slowSum(c.Data) == c.Sum }

// slowCode says whether there is a code, and slowPool whether a pool may be of it.
func slowCode(k, m int) bool {
	return k > 0 && m > 0 && k < 255 && m < 255 && k+m < 256
}

func slowPool(k, m int) bool { return slowCode(k, m) && k+m < 33 }

// slowLength is how many bytes a shard has: stripes are taken till they have room.
func slowLength(k, n int) int {
	length := 0
	for room := 0; room < n; room += 16 * k {
		length += 16
	}
	return length
}

// slowChunks is an object's, byte by byte: each data byte is looked up in the object, each
// parity byte is the sum by layer 3's row.
func slowChunks(k, m int, b []byte) ([]api.Chunk, api.Errno) {
	if !slowCode(k, m) {
		return nil, api.ErrArg
	}
	if len(b) > 4096 {
		return nil, api.ErrLong
	}
	out := make([]api.Chunk, k+m)
	for i := range out {
		out[i] = api.Chunk{Size: len(b), Data: make([]byte, slowLength(k, len(b)))}
	}
	for at := range slowLength(k, len(b)) {
		for i := range k {
			if from := (at/16*k+i)*16 + at%16; from < len(b) {
				out[i].Data[at] = b[from]
			}
		}
		for j := range m {
			for i := range k {
				factor, _ := gf.Inv(byte(j ^ (m + i)))
				out[k+j].Data[at] ^= gf.Mul(factor, out[i].Data[at])
			}
		}
	}
	for i := range out {
		out[i].Sum = slowSum(out[i].Data)
	}
	return out, api.OK
}

// slowObject is the object by the first K that count, byte by byte.
func slowObject(k, m, n int, l []api.Chunk, have []bool) ([]byte, api.Errno) {
	switch {
	case !slowCode(k, m) || len(l) != k+m || len(have) != k+m || n < 0:
		return nil, api.ErrArg
	case n > 4096:
		return nil, api.ErrLong
	}
	data, count := make([][]byte, k+m), make([]bool, k+m)
	counted := 0
	for i, c := range l {
		if !have[i] || !slowSound(c) || c.Size != n {
			continue
		}
		if len(c.Data) != slowLength(k, n) {
			return nil, api.ErrBad
		}
		data[i], count[i] = c.Data, true
		counted++
	}
	if counted < k {
		return nil, api.ErrNone
	}
	all, _ := code.Decode(k, m, data, count)
	out := make([]byte, n)
	for at := range k * len(all[0]) {
		b := all[at/16%k][at/16/k*16+at%16]
		if at < n {
			out[at] = b
		} else if b != 0 {
			return nil, api.ErrBad
		}
	}
	return out, api.OK
}

// slowRefuse is ErrArg and ErrBad of all that are given shards, these held against each
// other pair by pair.
func slowRefuse(k, m int, l []api.Shard) api.Errno {
	if !slowPool(k, m) || len(l) > k+m {
		return api.ErrArg
	}
	for i, s := range l {
		if shard.CheckShard(s) != api.OK || s.Since == 0 || s.Place >= k+m {
			return api.ErrBad
		}
		for _, o := range l[:i] {
			if o.Place == s.Place || text(o.Log) != text(s.Log) || !maps.Equal(sizesOf(o), sizesOf(s)) {
				return api.ErrBad
			}
		}
	}
	return api.OK
}

// sizesOf is the size of each object of a shard that may be.
func sizesOf(s api.Shard) map[string]int {
	out := map[string]int{}
	for _, x := range s.Items {
		out[x.Name] = x.Chunk.Size
	}
	return out
}

// namesOf are the names of shards that tell the same, by bytes.
func namesOf(l []api.Shard) []string {
	if len(l) == 0 {
		return nil
	}
	return slices.Sorted(maps.Keys(sizesOf(l[0])))
}

func slowRead(k, m int, l []api.Shard) ([]api.Object, api.Errno) {
	if e := slowRefuse(k, m, l); e != api.OK {
		return nil, e
	}
	var out []api.Object
	few, bad := len(l) < k, false
	for _, name := range namesOf(l) {
		chunks, have := make([]api.Chunk, k+m), make([]bool, k+m)
		sound := 0
		for _, s := range l {
			chunks[s.Place], have[s.Place] = shard.Get(s, name)
			if slowSound(chunks[s.Place]) {
				sound++
			}
		}
		b, e := slowObject(k, m, sizesOf(l[0])[name], chunks, have)
		few, bad = few || sound < k, bad || e == api.ErrBad
		out = append(out, api.Object{Name: name, Data: b})
	}
	switch {
	case few:
		return nil, api.ErrNone
	case bad:
		return nil, api.ErrBad
	}
	return out, api.OK
}

func slowMake(k, m int, l []api.Object, log []api.Entry, since int) ([]api.Shard, api.Errno) {
	wrong := !slowPool(k, m) || since < 1 || since > 1048576
	for i, o := range l {
		wrong = wrong || name.Check(o.Name) != api.OK || i > 0 && o.Name <= l[i-1].Name || len(o.Data) > 4096
	}
	for i, e := range log {
		wrong = wrong || !slowEntryMay(e) || e.Seq != 1+i
	}
	if wrong {
		return nil, api.ErrArg
	}
	var out []api.Shard
	for place := range k + m {
		s := api.Shard{Place: place, Since: since, Log: slices.Clone(log)}
		for _, o := range l {
			chunks, _ := slowChunks(k, m, o.Data)
			s.Items = append(s.Items, api.Item{Name: o.Name, Chunk: chunks[place]})
		}
		out = append(out, s)
	}
	return out, api.OK
}

// slowEntryMay goes by layer 21's words.
func slowEntryMay(e api.Entry) bool {
	switch {
	case e.Seq < 1 || e.Seq > 4096:
	case e.Key.Client < 0 || e.Key.Client > 2147483647:
	case e.Key.Seq < 0 || e.Key.Seq > 2147483647:
	case name.Check(e.Name) != 0:
	case e.Size < 0 || e.Size > 4096:
	case e.Code < 0 || e.Code > 255:
	case e.Code != 0 && e.Gone:
	case e.Code != 0 && e.Size != 0:
	case e.Gone && e.Size != 0:
	default:
		return true
	}
	return false
}

func slowMove(k, m int, l []api.Shard, since int) ([]api.Shard, api.Errno) {
	objects, e := slowRead(k, m, l)
	if e != api.OK {
		return nil, e
	}
	return slowMake(k, m, objects, l[0].Log, since)
}

// slowRotten asks for each name and place.
func slowRotten(k, m int, l []api.Shard) ([]api.Rotten, api.Errno) {
	if e := slowRefuse(k, m, l); e != api.OK {
		return nil, e
	}
	var out []api.Rotten
	for _, name := range namesOf(l) {
		for place := range k + m {
			for _, s := range l {
				if c, ok := shard.Get(s, name); s.Place == place && ok && !slowSound(c) {
					out = append(out, api.Rotten{Pg: 0, Name: name, Place: place})
				}
			}
		}
	}
	return out, api.OK
}

// like looks whether a call told what it should.
func like[T any](t testing.TB, what string, got, want []T, errno, wrong api.Errno) ([]T, api.Errno) {
	t.Helper()
	if text(got) != text(want) || errno != wrong {
		t.Fatalf("%s:\n%+v, error %d, and not\n%+v, error %d", what, got, errno, want, wrong)
	}
	return got, errno
}

// The following hold each call against the words.
func chunks(t testing.TB, k, m int, b []byte) ([]api.Chunk, api.Errno) {
	t.Helper()
	got, errno := rebuild.Chunks(k, m, b)
	want, wrong := slowChunks(k, m, b)
	return like(t, fmt.Sprintf("Chunks %d, %d, %v", k, m, b), got, want, errno, wrong)
}

func object(t testing.TB, k, m, n int, l []api.Chunk, have []bool) ([]byte, api.Errno) {
	t.Helper()
	got, errno := rebuild.Object(k, m, n, l, have)
	want, wrong := slowObject(k, m, n, l, have)
	return like(t, fmt.Sprintf("Object %d, %d, %d, %+v, %v", k, m, n, l, have), got, want, errno, wrong)
}

func reads(t testing.TB, k, m int, l []api.Shard) ([]api.Object, api.Errno) {
	t.Helper()
	got, errno := rebuild.Read(k, m, l)
	want, wrong := slowRead(k, m, l)
	return like(t, fmt.Sprintf("Read %d, %d, %+v", k, m, l), got, want, errno, wrong)
}

func makes(t testing.TB, k, m int, l []api.Object, log []api.Entry, since int) ([]api.Shard, api.Errno) {
	t.Helper()
	got, errno := rebuild.Make(k, m, l, log, since)
	want, wrong := slowMake(k, m, l, log, since)
	return like(t, fmt.Sprintf("Make %d, %d, %+v, %+v, %d", k, m, l, log, since), got, want, errno, wrong)
}

func moves(t testing.TB, k, m int, l []api.Shard, since int) ([]api.Shard, api.Errno) {
	t.Helper()
	got, errno := rebuild.Move(k, m, l, since)
	want, wrong := slowMove(k, m, l, since)
	return like(t, fmt.Sprintf("Move %d, %d, %+v, %d", k, m, l, since), got, want, errno, wrong)
}

func rots(t testing.TB, k, m int, l []api.Shard) ([]api.Rotten, api.Errno) {
	t.Helper()
	got, errno := rebuild.Rotten(k, m, l)
	want, wrong := slowRotten(k, m, l)
	return like(t, fmt.Sprintf("Rotten %d, %d, %+v", k, m, l), got, want, errno, wrong)
}

// cloned are shards in memory of their own.
func cloned(l []api.Shard) []api.Shard {
	out := append([]api.Shard(nil), l...)
	for i, s := range out {
		out[i].Items = append([]api.Item(nil), s.Items...)
		out[i].Log = append([]api.Entry(nil), s.Log...)
		out[i].Undos = append([]api.Undo(nil), s.Undos...)
		for j, x := range s.Items {
			out[i].Items[j].Chunk.Data = append([]byte(nil), x.Chunk.Data...)
		}
		for j, u := range s.Undos {
			out[i].Undos[j].Was.Data = append([]byte(nil), u.Was.Data...)
		}
	}
	return out
}

// wild are numbers at all edges, and far beyond.
func wild() []int {
	return []int{math.MinInt, math.MinInt + 1, -4096, -256, -2, -1, 0, 1, 2, 3, 4, 15, 16, 30, 31, 32, 33, 254, 255, 256,
		4095, 4096, 4097, 1<<20 - 1, 1 << 20, 1<<20 + 1, 1 << 31, 1<<32 + 1, math.MaxInt - 31, math.MaxInt - 1, math.MaxInt}
}

// noCode are K and M of which there is no code, and noPool those of which no pool may be.
func noCode() [][2]int {
	return [][2]int{
		{0, 1}, {1, 0}, {0, 0}, {-1, 1}, {1, -1}, {-1, -1}, {-1, 3}, {3, -1}, {0, 2}, {2, 0}, {0, 32}, {32, 0}, {33, -1}, {-1, 33},
		{1, 255}, {255, 1}, {128, 128}, {255, 0}, {0, 255}, {256, 1}, {1, 256}, {257, -2}, {-2, 257},
		{math.MaxInt, 1}, {1, math.MaxInt}, {math.MaxInt, math.MaxInt}, {math.MinInt, 1}, {1, math.MinInt},
		{math.MinInt, math.MinInt}, {math.MaxInt, math.MinInt}, {math.MinInt + 2, math.MaxInt}, {math.MaxInt, math.MinInt + 4},
	}
}

func noPool() [][2]int {
	return append(noCode(), [2]int{32, 1}, [2]int{1, 32}, [2]int{16, 17}, [2]int{17, 16}, [2]int{31, 2}, [2]int{127, 128}, [2]int{254, 1}, [2]int{1, 254})
}

// numbers is a stream of numbers, the same in every run.
type numbers uint64

func (n *numbers) below(most int) int {
	*n = *n*6364136223846793005 + 1442695040888963407
	return int(uint64(*n)>>33) % most
}

// bytes are some out of a stream.
func (n *numbers) bytes(many int) []byte {
	out := make([]byte, many)
	for i := range out {
		out[i] = byte(n.below(256))
	}
	return out
}

// objects are some of few names, mostly short.
func (n *numbers) objects() []api.Object {
	var out []api.Object
	for _, name := range []string{"B", "a", "ab", "b", "é", "日"} {
		if n.below(2) == 0 {
			out = append(out, api.Object{Name: name, Data: n.bytes(n.below(3) * n.below(40))})
		}
	}
	return out
}

// log is some entries that may be.
func (n *numbers) log() []api.Entry {
	var out []api.Entry
	for seq := range n.below(4) {
		e := api.Entry{Seq: seq + 1, Key: api.Key{Client: n.below(3), Seq: n.below(9)}, Name: []string{"a", "b"}[n.below(2)]}
		switch n.below(3) {
		case 0:
			e.Code = api.Errno(1 + n.below(9))
		case 1:
			e.Gone = true
		default:
			e.Size = n.below(100)
		}
		out = append(out, e)
	}
	return out
}

// order is a choice of many of the numbers below all, in any order.
func (n *numbers) order(all, many int) []int {
	out := make([]int, all)
	for i := range out {
		at := n.below(i + 1)
		out[i] = out[at]
		out[at] = i
	}
	return out[:many]
}

// group is some shards of objects, in any order, each since when it was; of some the last
// entries may be taken back.
func (n *numbers) group(k, m, many int) []api.Shard {
	all, _ := slowMake(k, m, n.objects(), n.log(), 1)
	var out []api.Shard
	for _, place := range n.order(k+m, many) {
		s := all[place]
		s.Since = 1 + n.below(9)
		for _, e := range s.Log[n.below(len(s.Log)+1):] {
			u := api.Undo{Seq: e.Seq, Name: e.Name, Has: n.below(2) == 0}
			if u.Has {
				u.Was = api.Chunk{Size: n.below(9), Data: n.bytes(n.below(3))}
			}
			s.Undos = append(s.Undos, u)
		}
		out = append(out, s)
	}
	return cloned(out)
}
