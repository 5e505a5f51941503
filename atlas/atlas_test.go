package atlas_test

import (
	"math"
	"slices"
	"testing"

	"mooring/api"
	"mooring/atlas"
)

// The chapter's example.
func TestExample(t *testing.T) {
	m, _ := atlas.New(few())
	for _, c := range []api.Change{
		{Kind: api.ChangeAdd, Osd: api.Osd{Id: 3}},
		{Kind: api.ChangeUp, Osd: api.Osd{Id: 3, Life: 7, Boot: 1}},
		{Kind: api.ChangeDown, Osd: api.Osd{Id: 3}},
	} {
		next, errno := atlas.Apply(m, c)
		if errno != api.OK || next.Epoch != m.Epoch+1 {
			t.Fatalf("Apply(%+v, %+v): %+v, error %d", m, c, next, errno)
		}
		m = next
	}
	if m.Epoch != 3 {
		t.Errorf("Epoch is %d, and not 3", m.Epoch)
	}
	refuses(t, "down once more", m, api.Change{Kind: api.ChangeDown, Osd: api.Osd{Id: 3}}, api.ErrSame)
}

// wide is the edges of a pool's numbers, and numbers far beyond them.
func wide() []int {
	return []int{0, 1, 2, 3, 15, 16, 17, 30, 31, 32, 33, -1, -2, -32, math.MaxInt, math.MaxInt - 30, math.MinInt, math.MinInt + 33}
}

// At1: a pool may be, if K and M are 1 at least, together at most 32, Pgs is 1 to 32,
// and Domain 0 to 2. New, Fold, Check and Encode tell ErrArg of all others.
func TestPools(t *testing.T) {
	all := pools()
	add := []api.Change{{Kind: api.ChangeAdd}}
	for _, k := range wide() {
		for _, m := range wide() {
			for _, pgs := range wide() {
				for _, domain := range []int{0, 1, 2, 3, -1, math.MaxInt, math.MinInt} {
					p := api.Pool{K: k, M: m, Pgs: pgs, Domain: domain}
					may := all[p] > 0
					if slowPool(p) != may {
						t.Fatalf("the test's own: %+v", p)
					}
					poolsAre(t, p, add, may)
				}
			}
		}
	}
}

// poolsAre looks at what all calls tell of a pool that may be, or may not.
func poolsAre(t *testing.T, p api.Pool, add []api.Change, may bool) {
	t.Helper()
	m, errno := atlas.New(p)
	if errno != is(may) || may && !same(m, api.Map{Pool: p}) || !may && !zero(m) {
		t.Fatalf("New(%+v): %+v, error %d", p, m, errno)
	}
	m, told, errno := atlas.Fold(p, add)
	if errno != is(may) || may && (m.Pool != p || m.Epoch != 1 || len(m.Osds) != 1 || !slices.Equal(told, []api.Errno{api.OK})) {
		t.Fatalf("Fold(%+v): %+v, %v, error %d", p, m, told, errno)
	}
	if !may && (!zero(m) || len(told) != 0) {
		t.Fatalf("Fold(%+v): %+v and %v beside an error", p, m, told)
	}
	checks(t, api.Map{Pool: p}, may)
	if _, errno := atlas.Apply(api.Map{Pool: p}, add[0]); errno != is(may) {
		t.Fatalf("Apply at a map of %+v: error %d", p, errno)
	}
}

// At1: all pools that may be.
func TestAllPools(t *testing.T) {
	all := pools()
	if len(all) != 31*32/2*32*3 {
		t.Fatalf("the test's own: %d pools", len(all))
	}
	for p := range all {
		if m, errno := atlas.New(p); errno != api.OK || m.Epoch != 0 || m.Pool != p || len(m.Osds) != 0 {
			t.Fatalf("New(%+v): %+v, error %d", p, m, errno)
		}
	}
}

// At1: an OSD may be by each of its parts, alone and two by two, up and not up; it is
// so of one in a map and of one that is added.
func TestOsds(t *testing.T) {
	good := vectorOf(api.Osd{Id: 7, In: true, Weight: api.One, Life: 3, Boot: 2, Host: 5, Rack: 4})
	for a := range places {
		for b := range places {
			for _, x := range edges(a) {
				for _, y := range edges(b) {
					for _, isUp := range []int{0, 1} {
						v := good
						v[atUp] = isUp
						v[a] = x
						v[b] = y
						o := v.osd()
						checks(t, holding(o), slowOsd(o))
						checksChange(t, api.Change{Kind: api.ChangeAdd, Osd: o}, slowOsd(o))
					}
				}
			}
		}
	}
}

// At1: the edges of an OSD's parts, written out.
func TestOsdEdges(t *testing.T) {
	low := api.Osd{}
	high := api.Osd{Id: 999, Up: true, In: true, Weight: 1 << 24, Life: 1<<31 - 1, Boot: 1<<31 - 1, Host: 999, Rack: 999}
	upAt1 := api.Osd{Up: true, Life: 1, Boot: 1}
	for _, o := range []api.Osd{low, high, upAt1} {
		checks(t, holding(o), true)
	}
	for what, o := range map[string]api.Osd{
		"Id -1": {Id: -1}, "Id 1000": {Id: 1000}, "Host -1": {Host: -1}, "Host 1000": {Host: 1000}, "Rack -1": {Rack: -1}, "Rack 1000": {Rack: 1000},
		"Weight -1": {Weight: -1}, "Weight 2^24 + 1": {Weight: 1<<24 + 1},
		"Life -1": {Life: -1}, "Life 2^31": {Life: 1 << 31}, "Boot -1": {Boot: -1}, "Boot 2^31": {Boot: 1 << 31},
		"up, Life 0": {Up: true, Boot: 1}, "up, Boot 0": {Up: true, Life: 1}, "up, both 0": {Up: true},
	} {
		if slowOsd(o) {
			t.Fatalf("the test's own: %s", what)
		}
		checks(t, holding(o), false)
		checks(t, holding(low, o), false)
		checksChange(t, api.Change{Kind: api.ChangeAdd, Osd: o}, false)
	}
}

// At1: a map's Epoch is 0 to 2^20; at 2^20 nothing follows.
func TestEpochs(t *testing.T) {
	add := api.Change{Kind: api.ChangeAdd, Osd: api.Osd{Id: 999}}
	for epoch, may := range map[int]bool{
		0: true, 1: true, 127: true, 128: true, 1<<20 - 2: true, 1<<20 - 1: true, 1 << 20: true,
		-1: false, 1<<20 + 1: false, math.MaxInt: false, math.MinInt: false,
	} {
		m := api.Map{Epoch: epoch, Pool: few(), Osds: crowd(3)}
		checks(t, m, may)
		next, errno := applies(t, m, add)
		if want := is(may && epoch < 1<<20); errno != want {
			t.Errorf("Epoch %d: Apply: error %d, and not %d", epoch, errno, want)
		}
		if errno == api.OK && next.Epoch != epoch+1 {
			t.Errorf("behind Epoch %d comes %d", epoch, next.Epoch)
		}
	}
}

// At1: a map has at most 64 OSDs.
func TestHowManyOsds(t *testing.T) {
	for many, may := range map[int]bool{0: true, 1: true, 2: true, 62: true, 63: true, 64: true, 65: false, 66: false, 128: false, 499: false} {
		checks(t, holding(crowd(many)...), may)
	}
	checks(t, holding(make([]api.Osd, 1<<20)...), false)
	checks(t, holding(nil...), true)
	checks(t, holding([]api.Osd{}...), true)
}

// At1: its OSDs are by rising Id: each two neighbours the other way round, or of the
// same Id, and some far from one another.
func TestIdsRise(t *testing.T) {
	for _, many := range []int{2, 3, 10, 63, 64} {
		for i := range many {
			for j := range many {
				l := crowd(many)
				l[i], l[j] = l[j], l[i]
				checks(t, holding(l...), i == j)
				l = crowd(many)
				l[i].Id = l[j].Id
				checks(t, holding(l...), i == j)
			}
		}
	}
}

// At1: no Host is in two Racks, wherever its OSDs are; many may be on a host, in a
// rack, and a host and a rack may have the same number.
func TestHosts(t *testing.T) {
	t.Parallel()
	for _, many := range []int{2, 3, 64} {
		for i := range many {
			for j := range many {
				l := make([]api.Osd, many)
				for k := range l {
					l[k] = api.Osd{Id: k, Host: 10 + k, Rack: k % 3}
				}
				l[i].Host = l[j].Host
				checks(t, holding(l...), l[i].Rack == l[j].Rack)
				l[i].Rack = l[j].Rack
				checks(t, holding(l...), true)
			}
		}
	}
	checks(t, holding(api.Osd{Id: 0, Host: 0, Rack: 1}, api.Osd{Id: 1, Host: 1, Rack: 0}), true)
	checks(t, holding(api.Osd{Id: 0, Host: 999, Rack: 0}, api.Osd{Id: 1, Host: 999, Rack: 999}), false)
}

// At1: a change may be by its kind: each kind, and kinds that there are not, with each
// part at its edges, alone and two by two.
func TestChanges(t *testing.T) {
	bases := []vector{{}, vectorOf(api.Osd{Id: 7, Life: 2, Boot: 3}), {atId: 999, atWeight: 5}}
	for _, kind := range append(kindsOf(), 0, -1, -6, api.ChangeKinds, api.ChangeKinds+1, 256+api.ChangeUp, math.MaxInt, math.MinInt) {
		for _, base := range bases {
			for a := range places {
				for b := range a + 1 {
					for _, x := range edges(a) {
						for _, y := range edges(b) {
							v := base
							v[a] = x
							v[b] = y
							c := api.Change{Kind: kind, Osd: v.osd()}
							checksChange(t, c, slowChange(c))
						}
					}
				}
			}
		}
	}
}

// kindsOf is all kinds of changes.
func kindsOf() []int {
	return []int{api.ChangeAdd, api.ChangeUp, api.ChangeDown, api.ChangeIn, api.ChangeOut, api.ChangeWeight}
}

// At1: the edges of changes, written out.
func TestChangeEdges(t *testing.T) {
	for _, c := range []api.Change{
		{Kind: api.ChangeAdd}, {Kind: api.ChangeDown}, {Kind: api.ChangeIn}, {Kind: api.ChangeOut}, {Kind: api.ChangeWeight},
		{Kind: api.ChangeDown, Osd: api.Osd{Id: 999}}, {Kind: api.ChangeIn, Osd: api.Osd{Id: 999}}, {Kind: api.ChangeOut, Osd: api.Osd{Id: 999}},
		{Kind: api.ChangeUp, Osd: api.Osd{Life: 1, Boot: 1}}, {Kind: api.ChangeUp, Osd: api.Osd{Id: 999, Life: 1<<31 - 1, Boot: 1<<31 - 1}},
		{Kind: api.ChangeWeight, Osd: api.Osd{Id: 999, Weight: 1 << 24}},
		{Kind: api.ChangeAdd, Osd: api.Osd{Id: 999, Up: true, In: true, Weight: 1 << 24, Life: 1, Boot: 1, Host: 999, Rack: 999}},
	} {
		checksChange(t, c, true)
	}
	for what, c := range map[string]api.Change{
		"kind 0": {}, "kind -1": {Kind: -1}, "kind 7": {Kind: 7},
		"up, Life 0":      {Kind: api.ChangeUp, Osd: api.Osd{Boot: 1}},
		"up, Boot 0":      {Kind: api.ChangeUp, Osd: api.Osd{Life: 1}},
		"up, Life 2^31":   {Kind: api.ChangeUp, Osd: api.Osd{Life: 1 << 31, Boot: 1}},
		"up, Boot 2^31":   {Kind: api.ChangeUp, Osd: api.Osd{Life: 1, Boot: 1 << 31}},
		"up, Up":          {Kind: api.ChangeUp, Osd: api.Osd{Up: true, Life: 1, Boot: 1}},
		"up, In":          {Kind: api.ChangeUp, Osd: api.Osd{In: true, Life: 1, Boot: 1}},
		"up, Weight":      {Kind: api.ChangeUp, Osd: api.Osd{Weight: 1, Life: 1, Boot: 1}},
		"up, Host":        {Kind: api.ChangeUp, Osd: api.Osd{Host: 1, Life: 1, Boot: 1}},
		"up, Rack":        {Kind: api.ChangeUp, Osd: api.Osd{Rack: 1, Life: 1, Boot: 1}},
		"down, Id 1000":   {Kind: api.ChangeDown, Osd: api.Osd{Id: 1000}},
		"down, Id -1":     {Kind: api.ChangeDown, Osd: api.Osd{Id: -1}},
		"down, Life":      {Kind: api.ChangeDown, Osd: api.Osd{Life: 1}},
		"down, Boot":      {Kind: api.ChangeDown, Osd: api.Osd{Boot: 1}},
		"in, In":          {Kind: api.ChangeIn, Osd: api.Osd{In: true}},
		"out, Weight":     {Kind: api.ChangeOut, Osd: api.Osd{Weight: 1}},
		"weight, 2^24+1":  {Kind: api.ChangeWeight, Osd: api.Osd{Weight: 1<<24 + 1}},
		"weight, -1":      {Kind: api.ChangeWeight, Osd: api.Osd{Weight: -1}},
		"weight, Life":    {Kind: api.ChangeWeight, Osd: api.Osd{Weight: 1, Life: 1}},
		"weight, Id 1000": {Kind: api.ChangeWeight, Osd: api.Osd{Id: 1000, Weight: 1}},
	} {
		if slowChange(c) {
			t.Fatalf("the test's own: %s", what)
		}
		checksChange(t, c, false)
	}
}

// At2: Find tells the OSD of an Id, and none of others.
func TestFind(t *testing.T) {
	for _, many := range []int{0, 1, 2, 63, 64} {
		m := holding(crowd(many)...)
		for _, id := range []int{math.MinInt, -2, -1, 1000, 1002, math.MaxInt} {
			findsNone(t, m, id)
		}
		for id := range 1000 {
			if i := id/2 - 1; id%2 == 0 && i >= 0 && i < many {
				finds(t, m, id, m.Osds[i])
			} else {
				findsNone(t, m, id)
			}
		}
	}
}

// At2, R1, R5: of a map that may not be Find tells the first one of that Id, by the
// order of the list.
func TestFindInAnyMap(t *testing.T) {
	a, b, c := api.Osd{Id: 9, Weight: 1}, api.Osd{Id: -4, Life: -1}, api.Osd{Id: 9, Weight: 2}
	m := api.Map{Epoch: -1, Osds: []api.Osd{a, b, c, {Id: 1}, {Id: 5000, Up: true}}}
	finds(t, m, 9, a)
	finds(t, m, -4, b)
	finds(t, m, 1, m.Osds[3])
	finds(t, m, 5000, m.Osds[4])
	findsNone(t, m, 0)
	findsNone(t, api.Map{}, 0)
	many := make([]api.Osd, 100000)
	many[99999].Id = 7
	finds(t, api.Map{Osds: many}, 7, many[99999])
}

// finds looks whether an OSD is found.
func finds(t testing.TB, m api.Map, id int, want api.Osd) {
	t.Helper()
	if o, ok := atlas.Find(m, id); o != want || !ok {
		t.Errorf("Find(%d): %+v and %v, and not %+v", id, o, ok, want)
	}
}

// findsNone looks whether none is found.
func findsNone(t testing.TB, m api.Map, id int) {
	t.Helper()
	if o, ok := atlas.Find(m, id); o != (api.Osd{}) || ok {
		t.Errorf("Find(%d): %+v and %v, and not none", id, o, ok)
	}
}

// At2: Same tells whether maps are alike in all: one number that is another one lets
// them be others, wherever it is, also in maps that may not be.
func TestSame(t *testing.T) {
	for _, many := range []int{0, 1, 2, 64, 65} {
		m := api.Map{Epoch: 9, Pool: api.Pool{K: 3, M: 2, Pgs: 8, Domain: 1}, Osds: crowd(many)}
		sames(t, m, api.Map{Epoch: 9, Pool: m.Pool, Osds: crowd(many)}, true)
		for _, p := range []api.Pool{{K: 4, M: 2, Pgs: 8, Domain: 1}, {K: 3, M: 1, Pgs: 8, Domain: 1}, {K: 3, M: 2, Pgs: 9, Domain: 1}, {K: 3, M: 2, Pgs: 8}, {}} {
			sames(t, m, api.Map{Epoch: 9, Pool: p, Osds: crowd(many)}, false)
		}
		for _, epoch := range []int{8, 10, 0, -9, math.MaxInt} {
			sames(t, m, api.Map{Epoch: epoch, Pool: m.Pool, Osds: crowd(many)}, false)
		}
		sames(t, m, api.Map{Epoch: 9, Pool: m.Pool, Osds: crowd(many + 1)}, false)
		for i := range many {
			sames(t, m, api.Map{Epoch: 9, Pool: m.Pool, Osds: slices.Delete(crowd(many), i, i+1)}, false)
			for at := range places {
				l := crowd(many)
				v := vectorOf(l[i])
				v[at] = 1 - v[at]
				l[i] = v.osd()
				sames(t, m, api.Map{Epoch: 9, Pool: m.Pool, Osds: l}, v == vectorOf(m.Osds[i]))
			}
		}
	}
	sames(t, api.Map{}, api.Map{Osds: []api.Osd{}}, true)
	sames(t, api.Map{}, api.Map{Osds: []api.Osd{{}}}, false)
	odd := api.Map{Epoch: -1, Osds: []api.Osd{{Id: 9}, {Id: 1}}}
	sames(t, odd, api.Map{Epoch: -1, Osds: []api.Osd{{Id: 9}, {Id: 1}}}, true)
	sames(t, odd, api.Map{Epoch: -1, Osds: []api.Osd{{Id: 1}, {Id: 9}}}, false)
}

// sames looks at what Same tells, both ways round.
func sames(t testing.TB, a, b api.Map, want bool) {
	t.Helper()
	if atlas.Same(a, b) != want || atlas.Same(b, a) != want || !atlas.Same(a, a) || !atlas.Same(b, b) {
		t.Errorf("Same(%+v, %+v) is not %v", a, b, want)
	}
}
