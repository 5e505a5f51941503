package interval_test

import (
	"math"
	"slices"
	"strconv"
	"testing"

	"mooring/api"
	"mooring/interval"
)

// row is maps, one behind the other, that may be.
func row() []api.Map {
	m := wide(api.Pool{K: 2, M: 1, Pgs: 8, Domain: 1}, 4)
	m.Epoch = 5
	return behind(m,
		func(l []api.Osd) { l[0].Up = false },
		func(l []api.Osd) { l[1].In = false },
		func(l []api.Osd) { l[0].Up = true },
		func(l []api.Osd) { l[3].Boot++ },
	)
}

// wrongTurns turn a map of a row so that it may not be there.
func wrongTurns() map[string]func(m *api.Map) {
	out := map[string]func(m *api.Map){
		"the zero map": func(m *api.Map) { *m = api.Map{} },
		"no pool":      func(m *api.Map) { m.Pool = api.Pool{} },
		"Epoch -1":     func(m *api.Map) { m.Epoch = -1 },
		"Epoch least":  func(m *api.Map) { m.Epoch = math.MinInt },
		"Epoch most":   func(m *api.Map) { m.Epoch = math.MaxInt },
		"K 0":          func(m *api.Map) { m.Pool.K = 0 },
		"M 0":          func(m *api.Map) { m.Pool.M = 0 },
		"K + M 33":     func(m *api.Map) { m.Pool.K = 32 },
		"K greatest":   func(m *api.Map) { m.Pool.K = math.MaxInt },
		"Pgs 0":        func(m *api.Map) { m.Pool.Pgs = 0 },
		"Pgs 33":       func(m *api.Map) { m.Pool.Pgs = 33 },
		"Domain -1":    func(m *api.Map) { m.Pool.Domain = -1 },
		"Domain 3":     func(m *api.Map) { m.Pool.Domain = 3 },
		"65 OSDs":      func(m *api.Map) { m.Osds = wide(m.Pool, 65).Osds },
		"Ids fall":     func(m *api.Map) { slices.Reverse(m.Osds) },
		"an Id twice":  func(m *api.Map) { m.Osds[3].Id = m.Osds[2].Id },
		"a host in two racks": func(m *api.Map) {
			m.Osds[3].Host = m.Osds[0].Host
		},
	}
	for what, turn := range map[string]func(o *api.Osd){
		"Id -1":           func(o *api.Osd) { o.Id = -1 },
		"Id 1000":         func(o *api.Osd) { o.Id = 1000 },
		"Host 1000":       func(o *api.Osd) { o.Host = 1000 },
		"Rack -1":         func(o *api.Osd) { o.Rack = -1 },
		"Weight -1":       func(o *api.Osd) { o.Weight = -1 },
		"Weight 2^24 + 1": func(o *api.Osd) { o.Weight = 1<<24 + 1 },
		"Life 2^31":       func(o *api.Osd) { o.Life = 1 << 31 },
		"Boot -1":         func(o *api.Osd) { o.Boot = -1 },
		"Up without Life": func(o *api.Osd) { o.Up, o.Life = true, 0 },
		"Up without Boot": func(o *api.Osd) { o.Up, o.Boot = true, 0 },
	} {
		for _, at := range []int{0, 3} {
			out[what+", of OSD "+strconv.Itoa(at)] = func(m *api.Map) { turn(&m.Osds[at]) }
		}
	}
	return out
}

// otherTurns turn a map of a row into one that may be, but not there: its pool is another
// one, or its epoch is.
func otherTurns() map[string]func(m *api.Map) {
	return map[string]func(m *api.Map){
		"another K":      func(m *api.Map) { m.Pool.K = 3 },
		"another M":      func(m *api.Map) { m.Pool.M = 2 },
		"K and M turned": func(m *api.Map) { m.Pool.K, m.Pool.M = m.Pool.M, m.Pool.K },
		"more Pgs":       func(m *api.Map) { m.Pool.Pgs = 9 },
		"fewer Pgs":      func(m *api.Map) { m.Pool.Pgs = 7 },
		"another Domain": func(m *api.Map) { m.Pool.Domain = 0 },
		"an epoch more":  func(m *api.Map) { m.Epoch++ },
		"an epoch less":  func(m *api.Map) { m.Epoch-- },
		"Epoch 0":        func(m *api.Map) { m.Epoch = 0 },
		"Epoch 2^20":     func(m *api.Map) { m.Epoch = 1 << 20 },
	}
}

// turned is a row with one map turned.
func turned(at int, turn func(m *api.Map)) []api.Map {
	maps := row()
	turn(&maps[at])
	return maps
}

// In1, R1, R2: a map that may not be, at any place of a row, is refused, with placement
// groups that there are and others; so is it alone.
func TestWrongMaps(t *testing.T) {
	for what, turn := range wrongTurns() {
		for at := range row() {
			maps := turned(at, turn)
			for _, pg := range []int{-1, 0, 3, 7, 8, 31, 32} {
				refuses(t, what+", of map "+strconv.Itoa(at), maps, pg)
				refuses(t, what+", alone", maps[at:at+1], pg)
			}
		}
	}
}

// In1: maps that may be, but are of unlike pools, or whose epochs do not rise by one, are
// refused; each of them alone is not.
func TestMapsNotOneBehindTheOther(t *testing.T) {
	for what, turn := range otherTurns() {
		for at := range row() {
			maps := turned(at, turn)
			for pg := range 8 {
				refuses(t, what+", of map "+strconv.Itoa(at), maps, pg)
			}
			check(t, maps[at:at+1], 0)
			if at > 0 {
				check(t, maps[:at], 7)
			}
			if at < len(maps)-1 {
				check(t, maps[at+1:], 7)
			}
		}
	}
}

// In1: a row with a map left out, one that comes twice, two that are swapped, or all the
// other way round, is none.
func TestOrderOfMaps(t *testing.T) {
	for at := range row() {
		if at > 0 && at < len(row())-1 {
			refuses(t, "a map left out", slices.Delete(row(), at, at+1), 0)
		}
		refuses(t, "a map twice", slices.Insert(row(), at, row()[at]), 0)
		if at > 0 {
			maps := row()
			maps[at-1], maps[at] = maps[at], maps[at-1]
			refuses(t, "two swapped", maps, 0)
		}
	}
	around := row()
	slices.Reverse(around)
	refuses(t, "the other way round", around, 0)
	refuses(t, "one twice", slices.Concat(row(), row()), 0)
	alike := slices.Repeat(row()[:1], 3)
	refuses(t, "the same epoch", alike, 0)
}

// In1: a row that goes beyond the last epoch is refused, and one up to it is not.
func TestBeyondTheLastEpoch(t *testing.T) {
	maps := row()
	for i := range maps {
		maps[i].Epoch = 1<<20 - 3 + i
	}
	check(t, maps[:4], 0)
	refuses(t, "up to 2^20 + 1", maps, 0)
	refuses(t, "2^20 + 1 alone", maps[4:], 0)
}

// In1, R1: no maps are refused, whatever is asked for.
func TestNoMaps(t *testing.T) {
	for _, pg := range []int{-1, 0, 1, 31, math.MaxInt, math.MinInt} {
		refuses(t, "nil", nil, pg)
		refuses(t, "no maps", []api.Map{}, pg)
		refuses(t, "no maps ahead of some", row()[:0], pg)
	}
}

// In1: placement groups from 0 to the pool's last are told of, and no others.
func TestWrongPgs(t *testing.T) {
	for _, pgs := range []int{1, 2, 8, 31, 32} {
		maps := row()
		for i := range maps {
			maps[i].Pool.Pgs = pgs
		}
		for pg := range pgs {
			check(t, maps, pg)
		}
		for _, pg := range []int{-1, pgs, -2, pgs + 1, -pgs, 33, 64, 1 << 31, 1 << 32, 1<<32 + pgs - 1, -1 << 32, math.MaxInt, math.MinInt} {
			refuses(t, strconv.Itoa(pgs)+" placement groups", maps, pg)
			refuses(t, strconv.Itoa(pgs)+" placement groups, one map", maps[:1], pg)
		}
	}
}

// R1: very many maps, and maps with very many OSDs, are refused at once.
func TestVeryMany(t *testing.T) {
	refuses(t, "very many maps", make([]api.Map, 1<<18), 0)
	maps := row()
	maps[4].Osds = make([]api.Osd, 1<<18)
	refuses(t, "very many OSDs", maps, 0)
	if got, errno := interval.All(maps[:4], 0); errno != api.OK || len(got) < 2 {
		t.Errorf("All of the maps ahead = %+v, error %d", got, errno)
	}
}
