package shard_test

import (
	"fmt"
	"sync"
	"testing"

	"mooring/api"
	"mooring/shard"
)

// room puts more behind a list's end, that is no part of it.
func room[T any](l []T, behind ...T) []T {
	return append(append(make([]T, 0, len(l)+len(behind)), l...), behind...)[:len(l)]
}

// The roomy ones are in memory of their own, with room behind each list's end; in it are
// others of the kind, with lists of their own.
func roomyChunk(c api.Chunk) api.Chunk {
	c.Data = room(c.Data, 99, 98, 97)
	return c
}

func roomyShard(s api.Shard) api.Shard {
	s = clonedShard(s)
	for i := range s.Items {
		s.Items[i].Chunk = roomyChunk(s.Items[i].Chunk)
	}
	for i := range s.Undos {
		s.Undos[i].Was = roomyChunk(s.Undos[i].Was)
	}
	behind := api.Item{Name: "zz", Chunk: chunk(4, "behind")}
	s.Items = room(s.Items, behind, behind, behind)
	s.Log = room(s.Log, entry(len(s.Log)+1, "zz", 4), entry(len(s.Log)+2, "zz", 4))
	s.Undos = room(s.Undos, api.Undo{Seq: 9, Name: "zz", Has: true, Was: chunk(3, "zz")}, api.Undo{})
	return s
}

func roomy(h api.Holder) api.Holder {
	h = cloned(h)
	h.Now = roomyShard(h.Now)
	for i := range h.Next {
		h.Next[i] = roomyShard(h.Next[i])
	}
	h.Next = room(h.Next, wide(800), wide(900))
	return h
}

// memory is how often each element of some lists, and of the room behind their ends, is
// met, by its address.
type memory map[any]int

func list[T any](m memory, l []T, inside func(x T)) {
	l = l[:cap(l)]
	for i := range l {
		m[&l[i]]++
		inside(l[i])
	}
}

func (m memory) chunk(c api.Chunk) { list(m, c.Data, func(byte) {}) }

func (m memory) shard(s api.Shard) {
	list(m, s.Items, func(x api.Item) { m.chunk(x.Chunk) })
	list(m, s.Log, func(api.Entry) {})
	list(m, s.Undos, func(u api.Undo) { m.chunk(u.Was) })
}

func (m memory) holder(h api.Holder) {
	m.shard(h.Now)
	list(m, h.Next, m.shard)
}

func (m memory) info(i api.Info) { list(m, i.Next, func(api.Staged) {}) }

// any takes in what a call is given, or answers.
func (m memory) any(x any) {
	switch x := x.(type) {
	case api.Chunk:
		m.chunk(x)
	case api.Shard:
		m.shard(x)
	case api.Holder:
		m.holder(x)
	case api.Info:
		m.info(x)
	}
}

// wholeText is all of it, with what is in the room behind lists' ends.
func wholeText(l []any) string {
	out := ""
	m := memory{}
	for _, x := range l {
		out += fmt.Sprintf("%+v;", x)
		m.any(x)
	}
	sum := 0
	for p := range m {
		for _, b := range []byte(valueAt(p)) {
			sum += int(b) * int(b)
		}
	}
	return fmt.Sprintf("%s %d, %d", out, len(m), sum)
}

// valueAt is what an element is, without the addresses in it.
func valueAt(p any) string {
	switch p := p.(type) {
	case *byte:
		return fmt.Sprint(*p)
	case *api.Entry:
		return text(*p)
	case *api.Item:
		return text(*p)
	case *api.Undo:
		return text(*p)
	case *api.Shard:
		return text(*p)
	}
	return ""
}

// A deed is a call, that answers a holder, a shard, a chunk or an info.
type deed struct {
	what string
	do   func(h api.Holder, s api.Shard, c api.Chunk) any
}

// deeds are calls of all kinds, and each of them with all that it may tell.
func deeds() []deed {
	var out []deed
	add := func(what string, do func(h api.Holder, s api.Shard, c api.Chunk) any) {
		out = append(out, deed{what, do})
	}
	for _, since := range []int{0, 3, 5, 9, 10} {
		at := fmt.Sprintf(" of %d", since)
		add("Ask"+at, func(h api.Holder, _ api.Shard, _ api.Chunk) any { h, _ = shard.Ask(h, since); return h })
		add("Activate"+at, func(h api.Holder, _ api.Shard, _ api.Chunk) any { h, _ = shard.Activate(h, since); return h })
		add("Stage"+at, func(h api.Holder, s api.Shard, _ api.Chunk) any { s.Since = since; h, _ = shard.Stage(h, s); return h })
		add("At"+at, func(h api.Holder, _ api.Shard, _ api.Chunk) any { s, _ := shard.At(h, since); return s })
		for head := -1; head <= 6; head++ {
			add("Commit"+at, func(h api.Holder, _ api.Shard, _ api.Chunk) any { h, _ = shard.Commit(h, since, head); return h })
		}
		for _, e := range []api.Entry{entry(6, "a", 2), entry(6, "bb", 2), entry(6, "x", 2), gone(6, "a"), gone(6, "x"), failed(6, "a", 3),
			entry(1, "a", 5), entry(2, "a", 5), entry(9, "a", 5), entry(0, "a", 5)} {
			add("Write"+at+text(e), func(h api.Holder, _ api.Shard, c api.Chunk) any { h, _ = shard.Write(h, since, e, c); return h })
		}
	}
	for head := -1; head <= 6; head++ {
		add("Back", func(_ api.Holder, s api.Shard, _ api.Chunk) any { s, _ = shard.Back(s, head); return s })
		add("Back of all", func(_ api.Holder, s api.Shard, _ api.Chunk) any {
			s.Undos = undosOf(s.Log)
			s, _ = shard.Back(s, head)
			return s
		})
	}
	for _, n := range []string{"a", "b", "x"} {
		add("Get", func(_ api.Holder, s api.Shard, _ api.Chunk) any { c, _ := shard.Get(s, n); return c })
	}
	add("Info", func(h api.Holder, _ api.Shard, _ api.Chunk) any { return shard.Info(h, 3, 4) })
	add("Check", func(h api.Holder, s api.Shard, _ api.Chunk) any {
		return [2]api.Errno{shard.Check(h), shard.CheckShard(s)}
	})
	add("Head", func(_ api.Holder, s api.Shard, _ api.Chunk) any { return shard.Head(s) })
	add("Same", func(h api.Holder, _ api.Shard, _ api.Chunk) any { return shard.Same(h, full()) })
	return out
}

// R3: what is handed in, and what lies in the room behind its lists' ends, stays as it was,
// and is not told; an answer is new memory, its spare room too, and no two lists of it
// share any, nor do two answers.
func TestMemory(t *testing.T) {
	for _, x := range deeds() {
		h, s, c := roomy(full()), roomyShard(wide(9)), roomyChunk(chunk(2, "new"))
		given := []any{h, s, c}
		was := wholeText(given)
		got, other := x.do(h, s, c), x.do(h, s, c)
		if want := x.do(full(), wide(9), chunk(2, "new")); text(got) != text(want) {
			t.Errorf("%s: %+v, and without room %+v", x.what, got, want)
		}
		if wholeText(given) != was {
			t.Errorf("%s: what was handed in has turned to %s", x.what, wholeText(given))
		}
		apart(t, x.what, given, got, other)
	}
}

// apart looks whether no list of answers shares memory with another one, or with what was
// handed in.
func apart(t *testing.T, what string, given []any, answers ...any) {
	t.Helper()
	before, told := memory{}, memory{}
	for _, x := range given {
		before.any(x)
	}
	for _, x := range answers {
		told.any(x)
	}
	for p, often := range told {
		if often > 1 {
			t.Fatalf("%s: two lists share %s", what, valueAt(p))
		}
		if before[p] > 0 {
			t.Fatalf("%s: an answer shares %s with what was handed in", what, valueAt(p))
		}
	}
}

// R3: what is handed in may share memory with itself; the answer does not.
func TestMemoryHandedInTwice(t *testing.T) {
	one := chunk(3, "one")
	s := wide(9)
	for i := range s.Items {
		s.Items[i].Chunk = one
	}
	for i := range s.Undos {
		s.Undos[i].Has, s.Undos[i].Was = true, one
	}
	now := s
	now.Since = 3
	for _, x := range deeds() {
		h := api.Holder{Fence: 9, Now: now, Next: []api.Shard{s}}
		was := wholeText([]any{h, s, one})
		got := x.do(h, s, one)
		apart(t, x.what, []any{h, s, one}, got)
		if text(got) != text(x.do(cloned(h), clonedShard(s), clonedChunk(one))) {
			t.Errorf("%s: another answer", x.what)
		}
		if wholeText([]any{h, s, one}) != was {
			t.Errorf("%s: what was handed in has turned", x.what)
		}
	}
}

// R3: an answer does not turn with what was handed in, nor that with the answer.
func TestAnswersStay(t *testing.T) {
	for _, x := range deeds() {
		h, s, c := roomy(full()), roomyShard(wide(9)), roomyChunk(chunk(2, "new"))
		was := wholeText([]any{h, s, c})
		got := x.do(h, s, c)
		want := text(got)
		scribble(x.do(h, s, c))
		if wholeText([]any{h, s, c}) != was || text(got) != want {
			t.Fatalf("%s: to write into an answer turns something else", x.what)
		}
		for _, given := range []any{h, s, c} {
			scribble(given)
		}
		if text(got) != want {
			t.Fatalf("%s: the answer turns with what was handed in", x.what)
		}
	}
}

// scribble writes over all lists, and the room behind their ends.
func scribble(x any) {
	m := memory{}
	m.any(x)
	for p := range m {
		switch p := p.(type) {
		case *byte:
			*p ^= 0xFF
		case *api.Entry:
			*p = api.Entry{Seq: -7}
		case *api.Item:
			*p = api.Item{Name: "scribbled"}
		case *api.Undo:
			*p = api.Undo{Seq: -7}
		case *api.Shard:
			*p = api.Shard{Since: -7}
		case *api.Staged:
			*p = api.Staged{Since: -7}
		}
	}
}

// R4: the same is told each time, whatever was asked ahead of it, and by many at once.
func TestTheSameEachTime(t *testing.T) {
	h, s, c := full(), wide(9), chunk(2, "new")
	l := deeds()
	var want []string
	for _, x := range l {
		want = append(want, text(x.do(h, s, c)))
	}
	var all sync.WaitGroup
	for worker := range 8 {
		all.Go(func() {
			n := numbers(worker)
			for range 400 {
				i := n.below(len(l))
				if got := text(l[i].do(h, s, c)); got != want[i] {
					t.Errorf("%s: %s, and not %s", l[i].what, got, want[i])
				}
			}
		})
	}
	all.Wait()
}

var (
	keepHolder api.Holder
	keepShard  api.Shard
	keepErrno  api.Errno
)

// busy is a holder of so many objects and entries.
func busy(many int) api.Holder {
	h := active(api.Shard{Since: 1})
	for seq := 1; seq <= many; seq++ {
		n := string(rune(0x4E00 + seq*1237%4096))
		h.Now.Log = append(h.Now.Log, entry(seq, n, 9))
		h.Now.Undos = append(h.Now.Undos, api.Undo{Seq: seq, Name: n})
		h.Now.Items = append(h.Now.Items, api.Item{Name: string(rune(0x4E00 + seq)), Chunk: chunk(9, "some bytes")})
	}
	return h
}

func BenchmarkCheck(b *testing.B) {
	h := busy(1000)
	for range b.N {
		keepErrno ^= shard.Check(h)
	}
}

func BenchmarkWrite(b *testing.B) {
	h := busy(1000)
	for range b.N {
		keepHolder, _ = shard.Write(h, 1, entry(1001, "一", 9), h.Now.Items[3].Chunk)
	}
}

func BenchmarkBack(b *testing.B) {
	s := busy(1000).Now
	for range b.N {
		keepShard, _ = shard.Back(s, 0)
	}
}
