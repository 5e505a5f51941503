package rebuild_test

import (
	"math"
	"slices"
	"strings"
	"testing"

	"mooring/api"
	"mooring/rebuild"
)

// three are objects by rising names: a capital is ahead of what is none, and one that goes
// on behind another one.
func three() []api.Object {
	return []api.Object{
		{Name: "B", Data: []byte("twenty bytes, by two")},
		{Name: "a", Data: nil},
		{Name: "ab", Data: []byte(strings.Repeat("more than a stripe ", 5))},
	}
}

// wide are the shards of three objects, K 2 and M 2, with something in the Log.
func wide() []api.Shard {
	log := []api.Entry{
		{Seq: 1, Key: api.Key{Client: 3, Seq: 4}, Name: "B", Size: 20},
		{Seq: 2, Key: api.Key{Client: 3, Seq: 5}, Name: "x", Code: api.ErrNone},
	}
	l, _ := slowMake(2, 2, three(), log, 6)
	return l
}

// refused looks whether Read, Move and Rotten tell errors alone: Rotten that of all that
// may not be together, or, if that is OK, none.
func refused(t *testing.T, what string, k, m int, l []api.Shard, want, rotten api.Errno) {
	t.Helper()
	if o, e := reads(t, k, m, l); e != want || len(o) != 0 {
		t.Errorf("%s: Read: %v, error %d, want %d alone", what, o, e, want)
	}
	for _, since := range []int{-1, 0, 9, 1<<20 + 1} {
		// What Read refuses is named ahead of a wrong since.
		if s, e := moves(t, k, m, l, since); e != want || len(s) != 0 {
			t.Errorf("%s: Move to %d: %v, error %d, want %d alone", what, since, s, e, want)
		}
	}
	if r, e := rots(t, k, m, l); e != rotten || e != api.OK && len(r) != 0 {
		t.Errorf("%s: Rotten: %v, error %d, want %d alone", what, r, e, rotten)
	}
}

// Rb2, Rb4: ErrArg: no pool, and more shards than it has; ahead of all else that is wrong.
func TestShardsOfNoPool(t *testing.T) {
	bad := wide()
	bad[1].Since = -1
	for _, p := range noPool() {
		for _, l := range [][]api.Shard{nil, wide()[:1], wide(), bad} {
			refused(t, "no pool", p[0], p[1], l, api.ErrArg, api.ErrArg)
		}
	}
	for _, l := range [][]api.Shard{wide(), append(wide()[:3], wide()[0]), append(bad, bad...), make([]api.Shard, 4)} {
		refused(t, "too many", 2, 1, l, api.ErrArg, api.ErrArg)
	}
	refused(t, "33", 16, 16, make([]api.Shard, 33), api.ErrArg, api.ErrArg)
}

// unlike are turns of one shard of wide, behind which they tell the same no more.
func unlike() map[string]func(s *api.Shard) {
	return map[string]func(s *api.Shard){
		"may not be: Since":       func(s *api.Shard) { s.Since = -1 },
		"may not be: far Since":   func(s *api.Shard) { s.Since = 1<<20 + 1 },
		"none at all":             func(s *api.Shard) { *s = api.Shard{} },
		"Since 0":                 func(s *api.Shard) { s.Since = 0 },
		"may not be: Place":       func(s *api.Shard) { s.Place = -1 },
		"may not be: far Place":   func(s *api.Shard) { s.Place = 32 },
		"Place K + M":             func(s *api.Shard) { s.Place = 4 },
		"Place of another one":    func(s *api.Shard) { s.Place = (s.Place + 1) % 4 },
		"an entry less":           func(s *api.Shard) { s.Log = s.Log[:1] },
		"no entries":              func(s *api.Shard) { s.Log = nil },
		"an entry more":           func(s *api.Shard) { s.Log = append(s.Log, api.Entry{Seq: 3, Name: "a"}) },
		"another entry's Seq":     func(s *api.Shard) { s.Log[1].Seq = 3 },
		"another entry's Client":  func(s *api.Shard) { s.Log[1].Key.Client = 2 },
		"another entry's Key.Seq": func(s *api.Shard) { s.Log[1].Key.Seq = 2 },
		"another entry's Name":    func(s *api.Shard) { s.Log[0].Name = "b" },
		"another entry's Code":    func(s *api.Shard) { s.Log[1].Code = api.ErrLong },
		"another entry's Size":    func(s *api.Shard) { s.Log[0].Size = 21 },
		"another entry's Gone":    func(s *api.Shard) { s.Log[0].Gone, s.Log[0].Size = true, 0 },
		"an item less":            func(s *api.Shard) { s.Items = s.Items[:2] },
		"the first item less":     func(s *api.Shard) { s.Items = s.Items[1:] },
		"no items":                func(s *api.Shard) { s.Items = nil },
		"an item more":            func(s *api.Shard) { s.Items = append(s.Items, api.Item{Name: "b"}) },
		"another name":            func(s *api.Shard) { s.Items[1].Name = "a1" },
		"a name that may not be":  func(s *api.Shard) { s.Items[1].Name = "a/" },
		"names that do not rise":  func(s *api.Shard) { s.Items[0], s.Items[1] = s.Items[1], s.Items[0] },
		"a name twice":            func(s *api.Shard) { s.Items[1].Name = "B" },
		"another Size":            func(s *api.Shard) { s.Items[0].Chunk.Size = 21 },
		"a Size below 0":          func(s *api.Shard) { s.Items[1].Chunk.Size = -1 },
		"a Size too great":        func(s *api.Shard) { s.Items[1].Chunk.Size = 4097 },
		"a chunk that may not be": func(s *api.Shard) { s.Items[1].Chunk.Data = make([]byte, 4097) },
		"an Undo of no entry":     func(s *api.Shard) { s.Undos = []api.Undo{{Seq: 3, Name: "x"}} },
	}
}

// Rb2, Rb4: ErrBad of shards that do not tell the same, also of fewer than K, and of two
// that are alike but not as the others.
func TestShardsThatAreUnlike(t *testing.T) {
	for what, turn := range unlike() {
		for i := range 4 {
			l := cloned(wide())
			turn(&l[i])
			refused(t, what, 2, 2, l, api.ErrBad, api.ErrBad)
			j := (i + 1) % 4
			refused(t, what+", two", 2, 2, []api.Shard{l[j], l[i]}, api.ErrBad, api.ErrBad)
			refused(t, what+", two of three needed", 3, 1, []api.Shard{l[i], l[j]}, api.ErrBad, api.ErrBad)
		}
	}
	for _, what := range []string{"an item less", "another Size", "another entry's Name", "no entries"} {
		l := cloned(wide())
		unlike()[what](&l[2])
		unlike()[what](&l[3])
		refused(t, what+", half of them", 2, 2, l, api.ErrBad, api.ErrBad)
	}
	for _, what := range []string{"may not be: Since", "none at all", "Since 0", "may not be: Place", "may not be: far Place", "Place K + M",
		"a name twice", "a Size below 0", "a chunk that may not be", "an Undo of no entry"} {
		l := cloned(wide()[:1])
		unlike()[what](&l[0])
		refused(t, what+", one alone", 2, 2, l, api.ErrBad, api.ErrBad)
	}
}

// Rb2: what a shard has but its Log, and its objects' names and sizes, is its own: since
// when it is so, what may be taken back, and how long its chunks are.
func TestShardsThatTellTheSame(t *testing.T) {
	l := cloned(wide())
	l[0].Since, l[1].Since, l[2].Since = 1, 1<<20, 7
	l[1].Undos = []api.Undo{{Seq: 2, Name: "x"}}
	l[2].Undos = []api.Undo{{Seq: 1, Name: "B", Has: true, Was: summed(3, []byte{1})}, {Seq: 2, Name: "x"}}
	for _, order := range [][]int{{0, 1, 2, 3}, {3, 2, 1, 0}, {2, 0}, {1, 3, 0}} {
		var some []api.Shard
		for _, i := range order {
			some = append(some, l[i])
		}
		if o, e := reads(t, 2, 2, some); e != api.OK || text(o) != text(three()) {
			t.Errorf("%v: %+v, error %d", order, o, e)
		}
		if r, e := rots(t, 2, 2, some); e != api.OK || len(r) != 0 {
			t.Errorf("%v: %+v, error %d", order, r, e)
		}
	}
	l[1].Items[0].Chunk.Data = []byte{1, 2, 3}
	if o, e := reads(t, 2, 2, l); e != api.OK || text(o) != text(three()) {
		t.Errorf("a short one that is not sound: %+v, error %d", o, e)
	}
}

// Rb2, Rb3: ErrNone of fewer than K shards, and of none, whatever the objects are; Rotten
// tells of them all the same.
func TestTooFewShards(t *testing.T) {
	for _, p := range pools() {
		k, m := p[0], p[1]
		for _, objects := range [][]api.Object{nil, three()} {
			all, _ := slowMake(k, m, objects, nil, 3)
			for many := range min(k, 4) {
				refused(t, "too few", k, m, all[:many], api.ErrNone, api.OK)
				refused(t, "too few", k, m, all[k+m-many:], api.ErrNone, api.OK)
			}
			refused(t, "one too few", k, m, all[:k-1], api.ErrNone, api.OK)
		}
	}
	l := wide()
	l[2].Items[0].Chunk.Sum++
	if r, e := rots(t, 3, 1, l[2:3]); e != api.OK || len(r) != 1 || r[0] != (api.Rotten{Name: "B", Place: 2}) {
		t.Errorf("Rotten: %+v, error %d", r, e)
	}
}

// Rb2: ErrNone of one object of fewer than K sound chunks, whichever it is; it is named
// ahead of ErrBad of any object, and of that one.
func TestTooFewSound(t *testing.T) {
	for item := range 3 {
		for other := range 3 {
			l := cloned(wide())
			l[3].Items[other].Chunk = summed(l[3].Items[other].Chunk.Size, []byte{1})
			refused(t, "one is bad", 2, 2, l, api.ErrBad, api.OK)
			for _, place := range []int{0, 1} {
				l[place].Items[item].Chunk.Sum ^= 4
			}
			refused(t, "one is bad, two are not sound", 2, 2, l, api.ErrBad, api.OK)
			l[2].Items[item].Chunk.Sum ^= 4
			refused(t, "one is bad, three are not sound", 2, 2, l, api.ErrNone, api.OK)
			l[3].Items[item].Chunk.Sum ^= 4
			refused(t, "none is sound", 2, 2, l, api.ErrNone, api.OK)
		}
	}
}

// Rb2: ErrBad, if Join tells it of one: sound chunks that are not as long as they should
// be, or that are not 0 behind the object's end. Rotten tells of what is not sound alone.
func TestBadObjects(t *testing.T) {
	for item := range 3 {
		for place := range 4 {
			l := cloned(wide())
			c := &l[place].Items[item].Chunk
			*c = summed(c.Size, append(c.Data, 0))
			refused(t, "one byte too many", 2, 2, l, api.ErrBad, api.OK)
			if r, e := rots(t, 2, 2, l); e != api.OK || len(r) != 0 {
				t.Errorf("Rotten: %v, error %d", r, e)
			}
			c.Sum++
			if o, e := reads(t, 2, 2, l); e != api.OK || text(o) != text(three()) {
				t.Errorf("that is not sound: %v, error %d", o, e)
			}
		}
	}
	l := cloned(wide())
	for i := range l {
		l[i].Items[0].Chunk.Size = 19
		l[i].Items[1].Chunk.Size = 1
	}
	refused(t, "other sizes", 2, 2, l, api.ErrBad, api.OK)
	for i := range l {
		l[i].Items[1].Chunk.Size = 0
	}
	refused(t, "not 0 behind the end", 2, 2, l, api.ErrBad, api.OK)
	for i := range l {
		l[i].Items[0].Chunk.Size = 32
	}
	if o, e := reads(t, 2, 2, l); e != api.OK || string(o[0].Data) != "twenty bytes, by two"+strings.Repeat("\x00", 12) {
		t.Errorf("of another Size that will do: %+v, error %d", o, e)
	}
}

// Rb4: each chunk that is not sound is told, by names, then by places, whatever the order
// of the shards is.
func TestRottenByHand(t *testing.T) {
	l := cloned(wide())
	l[1].Items[0].Chunk.Data[3] ^= 1
	l[3].Items[0].Chunk.Sum ^= 1 << 31
	l[0].Items[1].Chunk.Data = []byte{0}
	l[2].Items[2].Chunk.Data = nil
	l[0].Items[2].Chunk.Data = append(l[0].Items[2].Chunk.Data, 0)
	want := []api.Rotten{{Name: "B", Place: 1}, {Name: "B", Place: 3}, {Name: "a", Place: 0}, {Name: "ab", Place: 0}, {Name: "ab", Place: 2}}
	n := numbers(1)
	for range 50 {
		var some []api.Shard
		for _, place := range n.order(4, 1+n.below(4)) {
			some = append(some, l[place])
		}
		var left []api.Rotten
		for _, r := range want {
			if slices.ContainsFunc(some, func(s api.Shard) bool { return s.Place == r.Place }) {
				left = append(left, r)
			}
		}
		if got, e := rots(t, 2, 2, some); e != api.OK || !slices.Equal(got, left) {
			t.Errorf("%v, error %d, and not %v", got, e, left)
		}
	}
}

// Rb4: of no shards nothing is told; what Read refuses as ErrNone is no error here.
func TestRottenOfNothing(t *testing.T) {
	for _, none := range [][]api.Shard{nil, {}} {
		if r, e := rots(t, 2, 1, none); e != api.OK || len(r) != 0 {
			t.Errorf("%v, error %d", r, e)
		}
	}
}

// Rb2 to Rb4: any shards, of which something is turned, by the words.
func TestAnyShards(t *testing.T) {
	n := numbers(11)
	told, rotten := map[api.Errno]int{}, map[api.Errno]int{}
	most := 0
	for range 12000 {
		k, m := 1+n.below(4), 1+n.below(3)
		l := n.group(k, m, min(k+m, n.below(k+m+2)))
		for range n.below(2) * n.below(2) * n.below(9) {
			n.turnOne(l)
		}
		if n.below(60) == 0 {
			l = append(l, n.group(k, m, 1)...)
		}
		_, e := reads(t, k, m, l)
		told[e]++
		since := wild()[n.below(len(wild()))]
		moves(t, k, m, l, since)
		moves(t, k, m, l, 1+n.below(1<<20))
		r, e := rots(t, k, m, l)
		rotten[e]++
		most = max(most, len(r))
	}
	for errno, least := range map[api.Errno]int{api.OK: 3000, api.ErrArg: 20, api.ErrNone: 2000, api.ErrBad: 1000} {
		if told[errno] < least || errno != api.ErrNone && rotten[errno] < least/2 {
			t.Errorf("error %d was told %d times, %d by Rotten: too little was tested", errno, told[errno], rotten[errno])
		}
	}
	if most < 4 {
		t.Errorf("%d rotten at most: too little was tested", most)
	}
}

// turnOne turns something of one of some shards.
func (n *numbers) turnOne(l []api.Shard) {
	if len(l) == 0 {
		return
	}
	s := &l[n.below(len(l))]
	if n.below(20) == 0 {
		turns := unlike()
		names := []string{"Since 0", "none at all", "Place of another one", "no entries", "no items", "an item more", "may not be: far Place"}
		turns[names[n.below(len(names))]](s)
		return
	}
	if len(s.Items) > 0 {
		c := &s.Items[n.below(len(s.Items))].Chunk
		size := c.Size
		if *c = n.turned(*c); n.below(10) > 0 {
			c.Size = size
		}
	}
}

// R1: Read, Move and Rotten of numbers of any kind end.
func TestReadEnds(t *testing.T) {
	odd := []api.Shard{{Place: math.MinInt, Since: 1}, {Place: math.MaxInt, Since: 1}, {Since: math.MinInt}, {Since: math.MaxInt}}
	for _, k := range wild() {
		for _, m := range wild() {
			for _, l := range [][]api.Shard{nil, wide(), wide()[2:], odd, odd[:1], odd[1:2], odd[2:3], odd[3:], make([]api.Shard, 3)} {
				o, e := rebuild.Read(k, m, l)
				if want, wrong := slowRead(k, m, l); e != wrong || text(o) != text(want) {
					t.Fatalf("Read(%d, %d) of %+v: %+v, error %d", k, m, l, o, e)
				}
				r, e := rebuild.Rotten(k, m, l)
				if want, wrong := slowRotten(k, m, l); e != wrong || text(r) != text(want) {
					t.Fatalf("Rotten(%d, %d) of %+v: %+v, error %d", k, m, l, r, e)
				}
				for _, since := range []int{math.MinInt, 0, 1, math.MaxInt} {
					if s, e := rebuild.Move(k, m, l, since); e != api.OK && len(s) != 0 {
						t.Fatalf("Move(%d, %d, %d): error %d", k, m, since, e)
					}
				}
			}
		}
	}
}
