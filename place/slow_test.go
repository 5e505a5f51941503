package place_test

import (
	"math"
	"slices"
	"testing"

	"mooring/api"
	"mooring/crush"
	"mooring/mix"
	"mooring/place"
)

// pool is the number that placement groups are mixed with, as the chapter says it, and
// greatest the greatest Life and Boot.
const (
	pool     = 0x706F6F6C
	greatest = 1<<31 - 1
)

// told is all that is told of a placement group.
type told struct {
	up, acting, lives, boots []int
	primary                  int
	whole                    bool
}

// slow is what is to be told of a placement group, by the chapter's words. It uses
// nothing of the package, but the calls of layers 15 and 17 that the words name.
func slow(m api.Map, pg int) told {
	by := api.Rule{Domain: m.Pool.Domain, Want: m.Pool.K + m.Pool.M}
	up, _ := crush.Choose(m, by, mix.Hash2(uint32(pg), pool))
	out := told{up: up, primary: -1, whole: true}
	for _, id := range up {
		id, life, boot := slowKeeper(m.Osds, id)
		out.acting = append(out.acting, id)
		out.lives = append(out.lives, life)
		out.boots = append(out.boots, boot)
		if id == -1 {
			out.whole = false
		} else if out.primary == -1 {
			out.primary = id
		}
	}
	return out
}

// slowKeeper is who has a place, and its life and boot: who is to have it, if it is Up.
func slowKeeper(l []api.Osd, id int) (keeper, life, boot int) {
	for _, o := range l {
		if o.Id == id && o.Up {
			return o.Id, o.Life, o.Boot
		}
	}
	return -1, 0, 0
}

// same says whether all that is told is alike.
func (a told) same(b told) bool {
	return slices.Equal(a.up, b.up) && slices.Equal(a.acting, b.acting) &&
		slices.Equal(a.lives, b.lives) && slices.Equal(a.boots, b.boots) &&
		a.primary == b.primary && a.whole == b.whole
}

// ask is all that the package tells of a placement group, and whether none of it is an
// error.
func ask(m api.Map, pg int) (told, bool) {
	var out told
	var errnos [3]api.Errno
	out.up, errnos[0] = place.Up(m, pg)
	out.acting, errnos[1] = place.Acting(m, pg)
	out.lives, out.boots, errnos[2] = place.Lives(m, pg)
	out.primary, out.whole = place.Primary(m, pg), place.Whole(m, pg)
	return out, errnos == [3]api.Errno{}
}

// check holds all that is told of a placement group against the chapter's words, and
// tells it.
func check(t testing.TB, m api.Map, pg int) told {
	t.Helper()
	got, ok := ask(m, pg)
	if want := slow(m, pg); !ok || !got.same(want) {
		t.Fatalf("of %d in %+v %+v is told (%t), want %+v", pg, m, got, ok, want)
	}
	return got
}

// refuses looks whether all calls refuse a map, or a placement group of it.
func refuses(t testing.TB, what string, m api.Map, pg int) {
	t.Helper()
	if l, errno := place.Up(m, pg); errno != api.ErrArg || len(l) != 0 {
		t.Errorf("%s: Up of %d: %v, error %d", what, pg, l, errno)
	}
	if l, errno := place.Acting(m, pg); errno != api.ErrArg || len(l) != 0 {
		t.Errorf("%s: Acting of %d: %v, error %d", what, pg, l, errno)
	}
	if lives, boots, errno := place.Lives(m, pg); errno != api.ErrArg || len(lives) != 0 || len(boots) != 0 {
		t.Errorf("%s: Lives of %d: %v, %v, error %d", what, pg, lives, boots, errno)
	}
	if got := place.Primary(m, pg); got != -1 {
		t.Errorf("%s: Primary of %d is %d", what, pg, got)
	}
	if place.Whole(m, pg) {
		t.Errorf("%s: %d is whole", what, pg)
	}
}

// wrongPgs are placement groups that a pool of so many has not, also such whose lowest
// bits alone would be one.
func wrongPgs(pgs int) []int {
	return []int{-1, pgs, -2, pgs + 1, -pgs, 33, 64, 255, 256, 1 << 31, 1 << 32, 1<<32 + pgs - 1, -1 << 32, math.MaxInt, math.MinInt, math.MinInt + 1}
}

// of is a map of a pool and OSDs.
func of(k, m, pgs, domain int, l ...api.Osd) api.Map {
	return api.Map{Epoch: 5, Pool: api.Pool{K: k, M: m, Pgs: pgs, Domain: domain}, Osds: l}
}

// town is eight OSDs on five hosts in three racks: two are not Up, one is not In, and one
// has no weight.
func town(k, m, pgs, domain int) api.Map {
	return of(k, m, pgs, domain,
		api.Osd{Id: 0, Up: true, In: true, Weight: api.One, Life: 11, Boot: 1, Host: 0, Rack: 0},
		api.Osd{Id: 1, Up: false, In: true, Weight: api.One, Life: 12, Boot: 2, Host: 0, Rack: 0},
		api.Osd{Id: 2, Up: true, In: false, Weight: api.One, Life: 13, Boot: 3, Host: 1, Rack: 0},
		api.Osd{Id: 3, Up: true, In: true, Weight: 2 * api.One, Life: 14, Boot: 4, Host: 1, Rack: 0},
		api.Osd{Id: 4, Up: true, In: true, Weight: api.One, Life: 15, Boot: 5, Host: 2, Rack: 1},
		api.Osd{Id: 5, Up: false, In: true, Weight: api.One / 2, Life: 16, Boot: 6, Host: 3, Rack: 1},
		api.Osd{Id: 6, Up: true, In: true, Weight: 0, Life: 17, Boot: 7, Host: 3, Rack: 1},
		api.Osd{Id: 7, Up: true, In: true, Weight: 3 * api.One, Life: 18, Boot: 8, Host: 4, Rack: 2},
	)
}

// odd is seven OSDs whose hosts and racks have numbers that do not rise with the Ids,
// with weights, lives and boots of every size.
func odd(k, m, pgs, domain int) api.Map {
	return of(k, m, pgs, domain,
		api.Osd{Id: 3, Up: true, In: true, Weight: api.MaxWeight, Life: greatest, Boot: 1, Host: 999, Rack: 7},
		api.Osd{Id: 8, Up: false, In: true, Weight: 700000, Life: 5, Boot: greatest, Host: 12, Rack: 3},
		api.Osd{Id: 40, Up: true, In: true, Weight: 100000, Life: 6, Boot: 9, Host: 12, Rack: 3},
		api.Osd{Id: 500, Up: true, In: true, Weight: 300000, Life: 1, Boot: 1, Host: 0, Rack: 0},
		api.Osd{Id: 777, Up: false, In: true, Weight: 5000000, Life: 0, Boot: 0, Host: 2, Rack: 0},
		api.Osd{Id: 998, Up: true, In: true, Weight: 3, Life: 70, Boot: 80, Host: 2, Rack: 0},
		api.Osd{Id: 999, Up: true, In: true, Weight: 900000, Life: 7, Boot: 3, Host: 800, Rack: 999},
	)
}

// wide is OSDs that are alike, Up and In, each on a host and in a rack of its own.
func wide(k, m, pgs, many int) api.Map {
	out := of(k, m, pgs, api.DomainHost)
	for id := range many {
		out.Osds = append(out.Osds, api.Osd{Id: id, Up: true, In: true, Weight: api.One, Life: 100 + id, Boot: 200 + id, Host: id, Rack: id})
	}
	return out
}

// allUp is the same map with every OSD Up, or with nobody.
func allUp(m api.Map, up bool) api.Map {
	m.Osds = slices.Clone(m.Osds)
	for i := range m.Osds {
		o := &m.Osds[i]
		o.Up, o.Life, o.Boot = up, max(o.Life, 1), max(o.Boot, 1)
	}
	return m
}

// down is the same map with some OSDs not Up.
func down(m api.Map, ids ...int) api.Map {
	m.Osds = slices.Clone(m.Osds)
	for i := range m.Osds {
		if slices.Contains(ids, m.Osds[i].Id) {
			m.Osds[i].Up = false
		}
	}
	return m
}

// numbers is a stream of numbers, the same in every run.
type numbers uint64

func (n *numbers) next() uint32 {
	*n = *n*6364136223846793005 + 1442695040888963407
	return uint32(*n >> 32)
}

// below is a number from 0 to most - 1.
func (n *numbers) below(most int) int { return int(n.next() % uint32(most)) }

// anyPool is a pool that may be, more often a small one.
func (n *numbers) anyPool() api.Pool {
	k := 1 + n.below(4)
	m := 1 + n.below(3)
	if n.below(6) == 0 {
		k = 1 + n.below(31)
		m = 1 + n.below(32-k)
	}
	return api.Pool{K: k, M: m, Pgs: 1 + n.below(32), Domain: n.below(3)}
}

// The kinds of maps that mapOf makes.
const (
	mostUp   = iota // nearly all are Up and In
	someUp          // half of them are Up
	fewUp           // one of eight is Up
	someOut         // half of them are not In
	unlike          // weights of every size, 0 too
	sameHost        // on few hosts
	mapKinds
)

// mapOf is a map of a kind that may be, of several racks and hosts, the same in every
// run. Also who is not Up may have a Life and a Boot.
func (n *numbers) mapOf(kind, many int) api.Map {
	racks, hosts := 1+n.below(6), 1+n.below(40)
	if kind == sameHost {
		hosts = 1 + n.below(4)
	}
	m := api.Map{Epoch: n.below(1<<20 + 1), Pool: n.anyPool()}
	id := n.below(20)
	for range many {
		host := n.below(hosts)
		o := api.Osd{Id: id, In: true, Weight: api.One, Host: 7*host + 3, Rack: 900 - 11*(host%racks)}
		m.Osds = append(m.Osds, n.turned(kind, o))
		id += 1 + n.below(14)
	}
	return m
}

// turned is an OSD that is Up and In, or not, and weighs, by a kind of maps.
func (n *numbers) turned(kind int, o api.Osd) api.Osd {
	o.Up = n.below(16) < [...]int{mostUp: 15, someUp: 8, fewUp: 2, someOut: 10, unlike: 12, sameHost: 12}[kind]
	o.Life, o.Boot = n.below(1<<31), n.below(1<<31)
	if o.Up {
		o.Life, o.Boot = max(o.Life, 1), max(o.Boot, 1)
	} else if n.below(3) == 0 {
		o.Life, o.Boot = 0, 0
	}
	switch kind {
	case mostUp:
		o.In = n.below(16) > 0
	case someOut:
		o.In = n.below(2) == 0
	case unlike:
		o.Weight = n.below(1<<n.below(25) + 1)
	}
	return o
}

// sizes is how many OSDs the maps of the tests have.
func sizes() []int { return []int{0, 1, 2, 3, 4, 5, 6, 8, 12, 20, 40, 63, 64} }
