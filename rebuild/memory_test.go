package rebuild_test

import (
	"bytes"
	"fmt"
	"slices"
	"sync"
	"testing"

	"mooring/api"
	"mooring/rebuild"
)

// room puts more behind a list's end, that is no part of it.
func room[T any](l []T, behind ...T) []T {
	return append(append(make([]T, 0, len(l)+len(behind)), l...), behind...)[:len(l)]
}

// given is what all calls are given.
type given struct {
	k, m    int
	shards  []api.Shard
	objects []api.Object
	log     []api.Entry
	chunks  []api.Chunk
	have    []bool
}

// plain is what may be: shards of which some chunks are not sound, and chunks of which one
// is not there, one not sound.
func plain() given {
	g := given{k: 2, m: 2, shards: cloned(wide()), objects: three(), log: wide()[0].Log, have: []bool{true, false, true, true}}
	g.shards[0], g.shards[3] = g.shards[3], g.shards[0]
	g.shards[1].Undos = []api.Undo{{Seq: 2, Name: "x", Has: true, Was: summed(3, []byte{7})}}
	g.shards[1].Items[0].Chunk.Sum++
	g.shards[2].Items[2].Chunk.Data[5]++
	g.chunks, _ = slowChunks(2, 2, g.objects[2].Data)
	g.chunks[0].Sum++
	g.objects[0].Data = bytes.Clone(g.objects[0].Data)
	return g
}

// roomy is the same, in memory of its own, with room behind each list's end; in it are
// others of the kind, with lists of their own.
func roomy(g given) given {
	g.shards = cloned(g.shards)
	for i := range g.shards {
		s := &g.shards[i]
		for j := range s.Items {
			s.Items[j].Chunk = roomyChunk(s.Items[j].Chunk)
		}
		for j := range s.Undos {
			s.Undos[j].Was = roomyChunk(s.Undos[j].Was)
		}
		behind := api.Item{Name: "zz", Chunk: summed(4, []byte{1})}
		s.Items = room(s.Items, behind, behind)
		s.Log = room(s.Log, api.Entry{Seq: 3, Name: "zz"}, api.Entry{Seq: 4, Name: "zz"})
		s.Undos = room(s.Undos, api.Undo{Seq: 3, Name: "zz"})
	}
	g.shards = room(g.shards, api.Shard{Since: 9, Place: 1}, api.Shard{Since: 9})
	g.objects = slices.Clone(g.objects)
	for i, o := range g.objects {
		g.objects[i].Data = room(o.Data, 9, 8, 7)
	}
	g.objects = room(g.objects, api.Object{Name: "zz", Data: []byte{5}}, api.Object{})
	g.log = room(g.log, api.Entry{Seq: 3, Name: "zz"}, api.Entry{})
	g.chunks = slices.Clone(g.chunks)
	for i, c := range g.chunks {
		g.chunks[i] = roomyChunk(c)
	}
	g.chunks = room(g.chunks, summed(1, []byte{1}), api.Chunk{})
	g.have = room(g.have, true, false, true)
	return g
}

func roomyChunk(c api.Chunk) api.Chunk {
	c.Data = room(c.Data, 99, 98, 97)
	return c
}

// memory is each element of some lists, and of the room behind their ends, by its address:
// how often it is met, and how to write over it.
type memory map[any]*element

type element struct {
	met   int
	erase func()
}

func list[T any](m memory, l []T, inside func(x T)) {
	l = l[:cap(l)]
	for i := range l {
		if m[&l[i]] == nil {
			m[&l[i]] = &element{erase: func() { var none T; l[i] = none }}
		}
		m[&l[i]].met++
		inside(l[i])
	}
}

func (m memory) chunk(c api.Chunk) { list(m, c.Data, func(byte) {}) }

func (m memory) shard(s api.Shard) {
	list(m, s.Items, func(x api.Item) { m.chunk(x.Chunk) })
	list(m, s.Log, func(api.Entry) {})
	list(m, s.Undos, func(u api.Undo) { m.chunk(u.Was) })
}

// any takes in what a call is given, or answers.
func (m memory) any(x any) {
	switch x := x.(type) {
	case given:
		list(m, x.shards, m.shard)
		list(m, x.objects, func(o api.Object) { list(m, o.Data, func(byte) {}) })
		list(m, x.log, func(api.Entry) {})
		list(m, x.chunks, m.chunk)
		list(m, x.have, func(bool) {})
	case []byte:
		list(m, x, func(byte) {})
	case []api.Chunk:
		list(m, x, m.chunk)
	case []api.Object:
		list(m, x, func(o api.Object) { list(m, o.Data, func(byte) {}) })
	case []api.Shard:
		list(m, x, m.shard)
	case []api.Rotten:
		list(m, x, func(api.Rotten) {})
	}
}

// wholeText is all that is handed in, with what is in the room behind lists' ends.
func wholeText(g given) string {
	out := fmt.Sprint(g.log[:cap(g.log)], g.have[:cap(g.have)])
	for _, s := range g.shards[:cap(g.shards)] {
		out += fmt.Sprint(s, s.Log[:cap(s.Log)])
		for _, x := range s.Items[:cap(s.Items)] {
			out += fmt.Sprint(x, x.Chunk.Data[:cap(x.Chunk.Data)])
		}
		for _, u := range s.Undos[:cap(s.Undos)] {
			out += fmt.Sprint(u, u.Was.Data[:cap(u.Was.Data)])
		}
	}
	for _, o := range g.objects[:cap(g.objects)] {
		out += fmt.Sprint(o, o.Data[:cap(o.Data)])
	}
	for _, c := range g.chunks[:cap(g.chunks)] {
		out += fmt.Sprint(c, c.Data[:cap(c.Data)])
	}
	return out
}

// deeds are all calls, each with some of what it may tell.
func deeds() map[string]func(g given) any {
	out := map[string]func(g given) any{
		"Read":          func(g given) any { l, _ := rebuild.Read(g.k, g.m, g.shards); return l },
		"Read of K":     func(g given) any { l, _ := rebuild.Read(g.k, g.m, []api.Shard{g.shards[3], g.shards[0]}); return l },
		"Read of few":   func(g given) any { l, _ := rebuild.Read(g.k, g.m, g.shards[:2]); return l },
		"Read of none":  func(g given) any { l, _ := rebuild.Read(g.k, g.m, g.shards[:0]); return l },
		"Make":          func(g given) any { l, _ := rebuild.Make(g.k, g.m, g.objects, g.log, 9); return l },
		"Make of none":  func(g given) any { l, _ := rebuild.Make(g.k, g.m, g.objects[:0], g.log[:0], 9); return l },
		"Make refused":  func(g given) any { l, _ := rebuild.Make(g.k, g.m, g.objects, g.log, 0); return l },
		"Make by one":   func(g given) any { l, _ := rebuild.Make(1, 2, g.objects, g.log, 9); return l },
		"Move":          func(g given) any { l, _ := rebuild.Move(g.k, g.m, g.shards, 9); return l },
		"Move refused":  func(g given) any { l, _ := rebuild.Move(g.k, g.m, g.shards, 0); return l },
		"Rotten":        func(g given) any { l, _ := rebuild.Rotten(g.k, g.m, g.shards); return l },
		"Rotten of one": func(g given) any { l, _ := rebuild.Rotten(g.k, g.m, g.shards[1:2]); return l },
		"Object":        func(g given) any { b, _ := rebuild.Object(g.k, g.m, 95, g.chunks, g.have); return b },
		"Object, few":   func(g given) any { b, _ := rebuild.Object(3, 1, 95, g.chunks, g.have); return b },
	}
	for i := range 3 {
		out[fmt.Sprint("Chunks of ", i)] = func(g given) any { l, _ := rebuild.Chunks(g.k, g.m, g.objects[i].Data); return l }
		out[fmt.Sprint("Chunks by one of ", i)] = func(g given) any { l, _ := rebuild.Chunks(1, 1, g.objects[i].Data); return l }
	}
	return out
}

// R3: what is handed in, and what lies in the room behind its lists' ends, stays as it was,
// and is not told; an answer is new memory, its spare room too, and no two lists of it
// share any, nor do two answers; to write over one, or over what was handed in, turns none.
func TestMemory(t *testing.T) {
	for what, do := range deeds() {
		g := roomy(plain())
		was := wholeText(g)
		want := text(do(plain()))
		got, other := do(g), do(g)
		if text(got) != want || text(other) != want {
			t.Errorf("%s: %+v, and without room %s", what, got, want)
		}
		before, told := memory{}, memory{}
		before.any(g)
		told.any(got)
		told.any(other)
		for p, x := range told {
			if x.met != 1 || before[p] != nil {
				t.Fatalf("%s: memory is shared: %T", what, p)
			}
		}
		mine := memory{}
		mine.any(got)
		for _, x := range mine {
			x.erase()
		}
		if wholeText(g) != was || text(other) != want {
			t.Errorf("%s: to write over an answer turns another one, or what was handed in", what)
		}
		for _, x := range before {
			x.erase()
		}
		if text(other) != want {
			t.Errorf("%s: it turns with what was handed in", what)
		}
	}
}

// R3: what is handed in may share memory with itself.
func TestMemoryHandedInTwice(t *testing.T) {
	b := []byte("the same bytes, sixteen and more")
	data := slices.Repeat([][]byte{b}, 3)
	l := []api.Object{{Name: "a", Data: data[0]}, {Name: "b", Data: data[1][:16]}, {Name: "c", Data: data[2][8:]}}
	s, e := makes(t, 1, 2, l, wide()[0].Log, 5)
	if e != api.OK {
		t.Fatalf("error %d", e)
	}
	s[1].Log, s[2].Log = s[0].Log, s[0].Log
	tells(t, 1, 2, s, l, 7)
	c := summed(32, b)
	if o, e := object(t, 1, 1, 32, []api.Chunk{c, c}, all(2)); e != api.OK || !bytes.Equal(o, b) {
		t.Errorf("%q, error %d", o, e)
	}
	twice := api.Shard{Since: 3, Items: []api.Item{{Name: "a", Chunk: c}, {Name: "b", Chunk: c}}}
	other := twice
	other.Place = 1
	if o, e := reads(t, 1, 1, []api.Shard{twice, other}); e != api.OK || len(o) != 2 || !bytes.Equal(o[1].Data, b) {
		t.Errorf("%+v, error %d", o, e)
	}
	if string(b) != "the same bytes, sixteen and more" {
		t.Errorf("%q", b)
	}
}

// R3: nil and empty lists are the same.
func TestNilAndEmpty(t *testing.T) {
	for _, s := range []api.Shard{{Since: 4}, {Since: 4, Items: []api.Item{}, Log: []api.Entry{}, Undos: []api.Undo{}}} {
		other := api.Shard{Since: 5, Place: 1}
		if o, e := reads(t, 1, 1, []api.Shard{s, other}); e != api.OK || len(o) != 0 {
			t.Errorf("%+v, error %d", o, e)
		}
		if l, e := moves(t, 1, 1, []api.Shard{s, other}, 9); e != api.OK || len(l) != 2 {
			t.Errorf("%+v, error %d", l, e)
		}
	}
	for _, b := range [][]byte{nil, {}} {
		l, e := chunks(t, 2, 1, b)
		if e != api.OK || len(l) != 3 || text(l) != text(make([]api.Chunk, 3)) {
			t.Errorf("%+v, error %d", l, e)
		}
		for i := range l {
			l[i].Data = b
		}
		if o, e := object(t, 2, 1, 0, l, all(3)); e != api.OK || len(o) != 0 {
			t.Errorf("%v, error %d", o, e)
		}
		if s, e := makes(t, 2, 1, []api.Object{{Name: "a", Data: b}}, []api.Entry{}, 1); e != api.OK || len(s) != 3 {
			t.Errorf("%+v, error %d", s, e)
		}
	}
}

// R4: the same is told each time, whatever was asked ahead of it, and by many at once.
func TestTheSameEachTime(t *testing.T) {
	all := deeds()
	want := map[string]string{}
	names := []string{}
	for what, do := range all {
		want[what] = text(do(plain()))
		names = append(names, what)
	}
	slices.Sort(names)
	g := plain()
	var workers sync.WaitGroup
	for worker := range 8 {
		workers.Go(func() {
			n := numbers(worker)
			for range 300 {
				what := names[n.below(len(names))]
				if got := text(all[what](g)); got != want[what] {
					t.Errorf("%s: %s, and not %s", what, got, want[what])
				}
			}
		})
	}
	workers.Wait()
}

var keepSize int

// many are the greatest objects, so many.
func many(objects int) []api.Object {
	var out []api.Object
	for i := range objects {
		out = append(out, api.Object{Name: string(rune(0x4E00 + i)), Data: bytes.Repeat([]byte{byte(i)}, 4096)})
	}
	return out
}

// BenchmarkMove moves a hundred of the greatest objects by the last K shards.
func BenchmarkMove(b *testing.B) {
	l, _ := rebuild.Make(4, 2, many(100), nil, 1)
	for range b.N {
		s, _ := rebuild.Move(4, 2, l[2:], 2)
		keepSize ^= len(s)
	}
}

// BenchmarkRotten looks at six hundred chunks.
func BenchmarkRotten(b *testing.B) {
	l, _ := rebuild.Make(4, 2, many(100), nil, 1)
	for range b.N {
		r, _ := rebuild.Rotten(4, 2, l)
		keepSize ^= len(r)
	}
}
