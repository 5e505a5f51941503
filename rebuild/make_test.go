package rebuild_test

import (
	"strings"
	"testing"

	"mooring/api"
	"mooring/rebuild"
)

// unmade looks whether Make tells ErrArg alone.
func unmade(t *testing.T, what string, k, m int, l []api.Object, log []api.Entry, since int) {
	t.Helper()
	if s, e := makes(t, k, m, l, log, since); e != api.ErrArg || len(s) != 0 {
		t.Errorf("%s: %d shards, error %d", what, len(s), e)
	}
}

// made looks whether Make tells K + M shards.
func made(t *testing.T, what string, k, m int, l []api.Object, log []api.Entry, since int) {
	t.Helper()
	if s, e := makes(t, k, m, l, log, since); e != api.OK || len(s) != k+m {
		t.Errorf("%s: %d shards, error %d", what, len(s), e)
	}
}

// Rb3: Make by hand: places, since when, the items' chunks, the Log, and no Undos.
func TestMakeByHand(t *testing.T) {
	log := []api.Entry{{Seq: 1, Key: api.Key{Client: 3, Seq: 4}, Name: "zz", Gone: true}}
	l, e := makes(t, 2, 1, []api.Object{{Name: "a", Data: []byte("twenty bytes, by two")}, {Name: "b"}}, log, 9)
	if e != api.OK || len(l) != 3 {
		t.Fatalf("%+v, error %d", l, e)
	}
	pieces := []string{"twenty bytes, by", " two" + strings.Repeat("\x00", 12)}
	for place, s := range l {
		if s.Place != place || s.Since != 9 || text(s.Log) != text(log) || len(s.Undos) != 0 || len(s.Items) != 2 {
			t.Fatalf("%+v", s)
		}
		a, b := s.Items[0], s.Items[1]
		if a.Name != "a" || a.Chunk.Size != 20 || a.Chunk.Sum != slowSum(a.Chunk.Data) || b.Name != "b" || text(b.Chunk) != text(api.Chunk{}) {
			t.Errorf("%+v", s)
		}
		if place < 2 && string(a.Chunk.Data) != pieces[place] {
			t.Errorf("%q", a.Chunk.Data)
		}
	}
}

// Rb3: Make at the edges: of pools, sinces, names, sizes, and entries.
func TestMakeAtTheEdges(t *testing.T) {
	for _, p := range pools() {
		for _, since := range []int{1, 2, 1<<20 - 1, 1 << 20} {
			made(t, "a pool", p[0], p[1], three(), wide()[0].Log, since)
		}
	}
	for _, p := range noPool() {
		for _, l := range [][]api.Object{nil, three()} {
			unmade(t, "no pool", p[0], p[1], l, nil, 5)
		}
	}
	for _, since := range wild() {
		for _, l := range [][]api.Object{nil, three()} {
			for _, log := range [][]api.Entry{nil, wide()[0].Log} {
				if since >= 1 && since <= 1<<20 {
					made(t, "since", 2, 1, l, log, since)
				} else {
					unmade(t, "since", 2, 1, l, log, since)
				}
			}
		}
	}
	for _, size := range []int{0, 1, 4095, 4096} {
		made(t, "a size", 3, 2, []api.Object{{Name: "a", Data: make([]byte, size)}, {Name: "b"}}, nil, 5)
	}
	for _, size := range []int{4097, 4098, 1 << 16} {
		unmade(t, "a size", 3, 2, []api.Object{{Name: "a", Data: make([]byte, size)}}, nil, 5)
		unmade(t, "a size", 3, 2, []api.Object{{Name: "a"}, {Name: "b", Data: make([]byte, size)}, {Name: "c"}}, nil, 5)
	}
}

// Rb3: names that may not be, wherever they stand, and names that do not rise by bytes.
func TestMakeOfNames(t *testing.T) {
	for _, name := range []string{"a", "a b", strings.Repeat("é", 64), "~", "\u00a0"} {
		made(t, name, 2, 1, []api.Object{{Name: name}}, nil, 5)
	}
	for _, name := range []string{"", "a/b", "\xff", "\ufffd", " a", "a ", "a\x7f", "\x1f", strings.Repeat("a", 65)} {
		unmade(t, name, 2, 1, []api.Object{{Name: name}}, nil, 5)
		unmade(t, name, 2, 1, []api.Object{{Name: "!"}, {Name: name}}, nil, 5)
		unmade(t, name, 2, 1, []api.Object{{Name: name}, {Name: "\U00010000"}}, nil, 5)
		unmade(t, name, 2, 1, nil, []api.Entry{{Seq: 1, Name: name}}, 5)
	}
	for _, names := range [][]string{{"a", "a"}, {"b", "a"}, {"a", "B"}, {"ab", "a"}, {"a", "b", "b"}, {"a", "c", "b"}, {"b", "c", "a"}, {"\U00010000", "\ue000"}} {
		var l []api.Object
		for _, name := range names {
			l = append(l, api.Object{Name: name})
		}
		unmade(t, strings.Join(names, ","), 2, 1, l, nil, 5)
	}
	made(t, "rising by bytes", 2, 1, []api.Object{{Name: "B"}, {Name: "a"}, {Name: "ab"}, {Name: "a\u0301"}, {Name: "\ue000"}, {Name: "\U00010000"}}, nil, 5)
}

// Rb3: an entry that may not be, or is not numbered from 1 on, wherever it stands; what an
// entry says need not be so of the objects.
func TestMakeOfEntries(t *testing.T) {
	good := api.Entry{Key: api.Key{Client: 1<<31 - 1, Seq: 1<<31 - 1}, Name: "a", Size: 4096}
	for what, turn := range map[string]func(e *api.Entry){
		"Seq 0":             func(e *api.Entry) { e.Seq = 0 },
		"Seq one more":      func(e *api.Entry) { e.Seq++ },
		"Seq one less":      func(e *api.Entry) { e.Seq-- },
		"Client below 0":    func(e *api.Entry) { e.Key.Client = -1 },
		"Client too great":  func(e *api.Entry) { e.Key.Client = 1 << 31 },
		"Key.Seq below 0":   func(e *api.Entry) { e.Key.Seq = -1 },
		"Key.Seq too great": func(e *api.Entry) { e.Key.Seq = 1 << 31 },
		"no name":           func(e *api.Entry) { e.Name = "" },
		"Size below 0":      func(e *api.Entry) { e.Size = -1 },
		"Size too great":    func(e *api.Entry) { e.Size = 4097 },
		"Code below 0":      func(e *api.Entry) { e.Code = -1 },
		"Code too great":    func(e *api.Entry) { e.Code, e.Size = 256, 0 },
		"Code and Size":     func(e *api.Entry) { e.Code, e.Size = 1, 1 },
		"Code and Gone":     func(e *api.Entry) { e.Code, e.Gone, e.Size = 1, true, 0 },
		"Gone and Size":     func(e *api.Entry) { e.Gone, e.Size = true, 1 },
	} {
		for many := 1; many <= 3; many++ {
			for at := range many {
				log := make([]api.Entry, many)
				for i := range log {
					log[i] = good
					log[i].Seq = i + 1
				}
				made(t, what, 2, 1, nil, log, 5)
				turn(&log[at])
				unmade(t, what, 2, 1, nil, log, 5)
				unmade(t, what, 2, 1, three(), log, 5)
			}
		}
	}
	log := make([]api.Entry, 4097)
	for i := range log {
		log[i] = api.Entry{Seq: i + 1, Name: "a", Gone: i%2 == 0, Code: api.Errno(i % 2 * 255)}
	}
	made(t, "4096 entries", 1, 1, three(), log[:4096], 5)
	unmade(t, "4097 entries", 1, 1, three(), log, 5)
}

// Rb3: Make of any objects and entries, by the words.
func TestMakeOfAny(t *testing.T) {
	n := numbers(21)
	told := map[api.Errno]int{}
	for range 6000 {
		k, m := 1+n.below(4), 1+n.below(3)
		objects, log, since := n.objects(), n.log(), 1+n.below(20)
		switch n.below(12) {
		case 0:
			since = wild()[n.below(len(wild()))]
		case 1:
			k = wild()[n.below(len(wild()))]
		case 2:
			m = wild()[n.below(len(wild()))]
		case 3:
			log = append(log, api.Entry{Seq: n.below(5), Name: []string{"a", ""}[n.below(2)]})
		case 4:
			objects = append(objects, api.Object{Name: []string{"", "a", "日本", "/"}[n.below(4)], Data: make([]byte, 4090+n.below(13))})
		}
		_, e := makes(t, k, m, objects, log, since)
		told[e]++
	}
	if told[api.OK] < 3000 || told[api.ErrArg] < 800 {
		t.Errorf("%v: too little was tested", told)
	}
}

// Rb3: Move: the objects and the Log of what Read tells, all shards of them, as they should
// be; of shards that Read tells, since is ErrArg if it may not be.
func TestMoveByHand(t *testing.T) {
	l := cloned(wide())
	l[3].Undos = []api.Undo{{Seq: 2, Name: "x"}}
	l[1].Items[0].Chunk.Data[0]++
	want, _ := slowMake(2, 2, three(), l[0].Log, 8)
	for _, some := range [][]api.Shard{l, l[2:], {l[3], l[0], l[1]}} {
		if got, e := moves(t, 2, 2, some, 8); e != api.OK || text(got) != text(want) {
			t.Errorf("%+v, error %d", got, e)
		}
		for _, since := range wild() {
			if got, e := moves(t, 2, 2, some, since); (e == api.OK) != (since >= 1 && since <= 1<<20) || e != api.OK && (e != api.ErrArg || len(got) != 0) {
				t.Errorf("since %d: %d shards, error %d", since, len(got), e)
			}
		}
	}
	for _, none := range [][]api.Shard{nil, {}} {
		for _, since := range wild() {
			if got, e := moves(t, 2, 2, none, since); e != api.ErrNone || len(got) != 0 {
				t.Errorf("of no shards: %+v, error %d", got, e)
			}
		}
	}
}

// R1: Make of numbers of any kind ends.
func TestMakeEnds(t *testing.T) {
	for _, k := range wild() {
		for _, m := range wild() {
			for _, since := range wild() {
				s, e := rebuild.Make(k, m, []api.Object{{Name: "a", Data: []byte{1}}}, nil, since)
				if good := slowPool(k, m) && since >= 1 && since <= 1<<20; good != (e == api.OK) || good != (len(s) > 0) {
					t.Fatalf("Make(%d, %d, %d): error %d", k, m, since, e)
				}
			}
		}
	}
}
