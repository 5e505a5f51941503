package rebuild_test

import (
	"bytes"
	"maps"
	"slices"
	"testing"

	"mooring/api"
	"mooring/rebuild"
	"mooring/shard"
)

// subsets are all choices of some of shards, in their order.
func subsets(l []api.Shard) [][]api.Shard {
	var out [][]api.Shard
	for set := range 1 << len(l) {
		var some []api.Shard
		for i, s := range l {
			if set>>i&1 == 1 {
				some = append(some, s)
			}
		}
		out = append(out, some)
	}
	return out
}

// tells looks whether shards tell objects, and Move of them is Make.
func tells(t *testing.T, k, m int, l []api.Shard, objects []api.Object, since int) {
	t.Helper()
	if o, e := rebuild.Read(k, m, l); e != api.OK || text(o) != text(objects) {
		t.Fatalf("Read of %+v: %+v, error %d, and not %+v", l, o, e, objects)
	}
	want, e := rebuild.Make(k, m, objects, l[0].Log, since)
	if e != api.OK {
		t.Fatalf("Make: error %d", e)
	}
	if s, e := rebuild.Move(k, m, l, since); e != api.OK || text(s) != text(want) {
		t.Fatalf("Move of %+v: %+v, error %d, and not %+v", l, s, e, want)
	}
}

// Rb5: Read of any K of Make's shards, and of more, is the objects, and Move of them is
// Make; of fewer there is none.
func TestAnyOfMakes(t *testing.T) {
	n := numbers(31)
	for _, p := range [][2]int{{1, 1}, {2, 1}, {1, 3}, {2, 2}, {3, 2}, {4, 3}} {
		k, m := p[0], p[1]
		for range 6 {
			objects, log := n.objects(), n.log()
			l, e := rebuild.Make(k, m, objects, log, 1+n.below(1<<20))
			if e != api.OK {
				t.Fatalf("Make: error %d", e)
			}
			for _, some := range subsets(l) {
				if len(some) >= k {
					tells(t, k, m, some, objects, 1+n.below(1<<20))
				} else if o, e := rebuild.Read(k, m, some); e != api.ErrNone || len(o) != 0 {
					t.Fatalf("K %d, %d shards: %v, error %d", k, len(some), o, e)
				}
			}
		}
	}
}

// Rb5: of the greatest pools, and objects at the edges, in any order.
func TestAnyOfMakesAtTheEdges(t *testing.T) {
	n := numbers(32)
	for _, p := range pools() {
		k, m := p[0], p[1]
		var objects []api.Object
		for i, length := range lengths(k) {
			objects = append(objects, api.Object{Name: string(rune('a' + i)), Data: n.bytes(min(length, 4096))})
		}
		l, e := rebuild.Make(k, m, objects, nil, 4)
		if e != api.OK {
			t.Fatalf("Make: error %d", e)
		}
		for many := k; many <= k+m; many += 1 + m/3 {
			var some []api.Shard
			for _, place := range n.order(k+m, many) {
				some = append(some, l[place])
			}
			tells(t, k, m, some, objects, 5)
		}
	}
}

// rot is Data of a shard's item that is turned, of the same length or of another one, such
// that the chunk is sound no more.
func (n *numbers) rot(c *api.Chunk) {
	for slowSound(*c) {
		switch n.below(4) {
		case 0:
			c.Data = n.bytes(n.below(100))
		case 1:
			c.Data = c.Data[:n.below(len(c.Data)+1)]
		default:
			if len(c.Data) > 0 {
				c.Data[n.below(len(c.Data))] ^= byte(n.below(256))
			}
		}
	}
}

// rotted rots an object's chunks at so many shards; it tells at which.
func (n *numbers) rotted(l []api.Shard, item, many int) []api.Rotten {
	var out []api.Rotten
	for _, i := range n.order(len(l), many) {
		n.rot(&l[i].Items[item].Chunk)
		out = append(out, api.Rotten{Name: l[i].Items[item].Name, Place: l[i].Place})
	}
	slices.SortFunc(out, func(a, b api.Rotten) int { return a.Place - b.Place })
	return out
}

// Rb5: whatever Data is turned in at most M shards of each object: Read tells the objects,
// Rotten just these chunks, and Move puts them right. With more of one object nothing is
// told; Rotten tells these, too.
func TestRotIsFound(t *testing.T) {
	n := numbers(33)
	found, lost := 0, 0
	for range 3000 {
		k, m := 1+n.below(4), 1+n.below(3)
		objects := n.objects()
		was, e := rebuild.Make(k, m, objects, n.log(), 3)
		if e != api.OK {
			t.Fatalf("Make: error %d", e)
		}
		l := cloned(was)
		var want []api.Rotten
		for item := range objects {
			want = append(want, n.rotted(l, item, n.below(m+1))...)
		}
		found += len(want)
		tells(t, k, m, l, objects, 9)
		if r, e := rebuild.Rotten(k, m, l); e != api.OK || !slices.Equal(r, want) {
			t.Fatalf("Rotten: %v, error %d, and not %v", r, e, want)
		}
		if s, e := rebuild.Move(k, m, l, 3); e != api.OK || text(s) != text(was) {
			t.Fatalf("Move: error %d, %+v, and not %+v", e, s, was)
		}
		if len(objects) == 0 {
			continue
		}
		item := n.below(len(objects))
		for i := range l {
			l[i].Items[item] = cloned(was)[i].Items[item]
		}
		want = n.rotted(l, item, m+1+n.below(k))
		lost++
		if o, e := rebuild.Read(k, m, l); e != api.ErrNone || len(o) != 0 {
			t.Fatalf("more than M: %v, error %d", o, e)
		}
		r, e := rebuild.Rotten(k, m, l)
		r = slices.DeleteFunc(r, func(x api.Rotten) bool { return x.Name != objects[item].Name })
		if e != api.OK || !slices.Equal(r, want) {
			t.Fatalf("Rotten: %v, error %d, and not %v", r, e, want)
		}
	}
	if found < 4000 || lost < 2000 {
		t.Errorf("%d were rotten, %d lost: too little was tested", found, lost)
	}
}

// Rb5: each choice of at most M places of one object, of small codes; Object of what is
// left is the object, and Chunks of it what they were.
func TestEachRotIsPutRight(t *testing.T) {
	n := numbers(34)
	for _, p := range [][2]int{{1, 1}, {2, 1}, {2, 2}, {3, 2}, {2, 3}} {
		k, m := p[0], p[1]
		b := n.bytes(20*k + 7)
		for set := range 1 << (k + m) {
			l, e := rebuild.Chunks(k, m, b)
			rotten := 0
			for i := range l {
				if set>>i&1 == 1 {
					n.rot(&l[i])
					rotten++
				}
			}
			o, errno := rebuild.Object(k, m, len(b), l, all(k+m))
			if e != api.OK || (rotten <= m) != (errno == api.OK) || rotten > m && (errno != api.ErrNone || len(o) != 0) {
				t.Fatalf("K %d, M %d, %d rotten: error %d, %d", k, m, rotten, e, errno)
			}
			if rotten <= m && !bytes.Equal(o, b) {
				t.Fatalf("K %d, M %d, %d rotten: %v", k, m, rotten, o)
			}
		}
	}
}

// A world is a placement group that goes from interval to interval: of each place what its
// OSD has, and the objects behind each entry.
type world struct {
	k, m, since int
	places      []api.Holder
	log         []api.Entry
	states      []map[string]string
	firm        int
}

// objects are those behind an entry, by rising names.
func (w *world) objects(head int) []api.Object {
	var out []api.Object
	for _, name := range slices.Sorted(maps.Keys(w.states[head])) {
		out = append(out, api.Object{Name: name, Data: []byte(w.states[head][name])})
	}
	return out
}

// stage lets all places have shards of the next interval.
func (w *world) stage(t *testing.T, l []api.Shard) {
	for place, s := range l {
		h, e := shard.Stage(w.places[place], s)
		if e == api.OK {
			h, e = shard.Activate(h, s.Since)
		}
		if e != api.OK {
			t.Fatalf("a shard of %d can't be: error %d", s.Since, e)
		}
		w.places[place] = h
	}
	w.since = l[0].Since
}

// write does an entry at all places.
func (w *world) write(t *testing.T, n *numbers) {
	e := api.Entry{Seq: len(w.log) + 1, Key: api.Key{Client: 1, Seq: n.below(9)}, Name: []string{"a", "b", "é"}[n.below(3)]}
	next := maps.Clone(w.states[len(w.log)])
	l := make([]api.Chunk, w.k+w.m)
	switch n.below(5) {
	case 0:
		e.Gone = true
		delete(next, e.Name)
	case 1:
		e.Code = api.ErrSame
	default:
		b := n.bytes(n.below(3) * n.below(60))
		next[e.Name], e.Size = string(b), len(b)
		l, _ = rebuild.Chunks(w.k, w.m, b)
	}
	w.log, w.states = append(slices.Clone(w.log), e), append(slices.Clone(w.states), next)
	for place, h := range w.places {
		h, errno := shard.Write(h, w.since, e, l[place])
		if errno != api.OK {
			t.Fatalf("Write: error %d", errno)
		}
		w.places[place] = h
	}
}

// at are the shards of some places, up to an entry.
func (w *world) at(t *testing.T, places []int, head int) []api.Shard {
	var out []api.Shard
	for _, place := range places {
		s, e := shard.Back(w.places[place].Now, head)
		if e != api.OK {
			t.Fatalf("Back %d: error %d", head, e)
		}
		out = append(out, s)
	}
	return out
}

// Rb2, Rb3, Rb5: shards that layer 21 turned entry by entry, some of them committed, tell
// the objects behind each entry up to which they are taken back, by any K of them; moved to
// the next interval, they go on.
func TestLives(t *testing.T) {
	told, moved, back := 0, 0, 0
	for seed := range 150 {
		n := numbers(seed)
		w := &world{k: 1 + n.below(3), m: 1 + n.below(3), states: []map[string]string{{}}}
		w.places = make([]api.Holder, w.k+w.m)
		first, _ := rebuild.Make(w.k, w.m, nil, nil, 1)
		w.stage(t, first)
		for range 40 {
			head := w.firm + n.below(len(w.log)-w.firm+1)
			some := w.at(t, n.order(w.k+w.m, w.k+n.below(w.m+1)), head)
			switch n.below(8) {
			case 0:
				since := w.since + 1 + n.below(3)
				l, e := rebuild.Move(w.k, w.m, some, since)
				if want, _ := rebuild.Make(w.k, w.m, w.objects(head), w.log[:head], since); e != api.OK || text(l) != text(want) {
					t.Fatalf("Move: error %d, %+v, and not %+v", e, l, want)
				}
				moved, back = moved+1, back+len(w.log)-head
				w.log, w.states, w.firm = w.log[:head], w.states[:head+1], head
				w.stage(t, l)
			case 1:
				place := n.below(w.k + w.m)
				h, e := shard.Commit(w.places[place], w.since, head)
				if e != api.OK {
					t.Fatalf("Commit: error %d", e)
				}
				w.places[place], w.firm = h, head
			case 2, 3:
				told++
				if o, e := rebuild.Read(w.k, w.m, some); e != api.OK || text(o) != text(w.objects(head)) {
					t.Fatalf("Read: error %d, %+v, and not %+v", e, o, w.objects(head))
				}
				if r, e := rebuild.Rotten(w.k, w.m, some); e != api.OK || len(r) != 0 {
					t.Fatalf("Rotten: %v, error %d", r, e)
				}
			default:
				w.write(t, &n)
			}
		}
	}
	if told < 1000 || moved < 500 || back < 200 {
		t.Errorf("%d were told, %d moved, %d entries taken back: too little was tested", told, moved, back)
	}
}
