package place_test

import (
	"math"
	"slices"
	"strconv"
	"testing"

	"mooring/api"
)

// wrongMaps are maps that may not be, by each of their parts.
func wrongMaps() map[string]api.Map {
	out := map[string]api.Map{
		"the zero map":   {},
		"no pool":        {Osds: town(2, 1, 8, 0).Osds},
		"very many OSDs": of(2, 1, 8, 0, make([]api.Osd, 1<<16)...),
		"65 OSDs":        wide(2, 1, 8, 65),
	}
	for what, turn := range wrongOsds() {
		for _, at := range []int{0, 4, 7} {
			m := town(2, 1, 8, 1)
			turn(&m.Osds[at])
			out[what+", of OSD "+strconv.Itoa(at)] = m
		}
	}
	for what, turn := range wrongParts() {
		for name, m := range map[string]api.Map{"town": town(2, 1, 8, 1), "odd": odd(3, 2, 8, 0), "without OSDs": of(1, 1, 8, 2)} {
			turn(&m)
			out[name+", "+what] = m
		}
	}
	for what, swap := range map[string]func(l []api.Osd){
		"Ids fall":            slices.Reverse[[]api.Osd],
		"the last Id is low":  func(l []api.Osd) { l[7].Id = 5 },
		"an Id twice":         func(l []api.Osd) { l[3].Id = l[2].Id },
		"an OSD twice":        func(l []api.Osd) { l[3] = l[2] },
		"a host in two racks": func(l []api.Osd) { l[7].Host = l[0].Host },
	} {
		m := town(2, 1, 8, 2)
		swap(m.Osds)
		out[what] = m
	}
	return out
}

// wrongOsds turn an OSD into one that may not be.
func wrongOsds() map[string]func(o *api.Osd) {
	return map[string]func(o *api.Osd){
		"Id -1":           func(o *api.Osd) { o.Id = -1 },
		"Id 1000":         func(o *api.Osd) { o.Id = 1000 },
		"Host -1":         func(o *api.Osd) { o.Host = -1 },
		"Host 1000":       func(o *api.Osd) { o.Host = 1000 },
		"Rack -1":         func(o *api.Osd) { o.Rack = -1 },
		"Rack 1000":       func(o *api.Osd) { o.Rack = 1000 },
		"Weight -1":       func(o *api.Osd) { o.Weight = -1 },
		"Weight 2^24 + 1": func(o *api.Osd) { o.Weight = 1<<24 + 1 },
		"Weight greatest": func(o *api.Osd) { o.Weight = math.MaxInt },
		"Life -1":         func(o *api.Osd) { o.Life = -1 },
		"Life 2^31":       func(o *api.Osd) { o.Life = 1 << 31 },
		"Boot -1":         func(o *api.Osd) { o.Boot = -1 },
		"Boot 2^31":       func(o *api.Osd) { o.Boot = 1 << 31 },
		"Up without Life": func(o *api.Osd) { o.Up, o.Life, o.Boot = true, 0, 1 },
		"Up without Boot": func(o *api.Osd) { o.Up, o.Life, o.Boot = true, 1, 0 },
	}
}

// wrongParts turn a map into one that may not be, by its epoch or its pool.
func wrongParts() map[string]func(m *api.Map) {
	return map[string]func(m *api.Map){
		"Epoch -1":       func(m *api.Map) { m.Epoch = -1 },
		"Epoch 2^20 + 1": func(m *api.Map) { m.Epoch = 1<<20 + 1 },
		"K 0":            func(m *api.Map) { m.Pool.K = 0 },
		"K -1":           func(m *api.Map) { m.Pool.K, m.Pool.M = -1, 4 },
		"M 0":            func(m *api.Map) { m.Pool.M = 0 },
		"M -1":           func(m *api.Map) { m.Pool.K, m.Pool.M = 4, -1 },
		"K + M 33":       func(m *api.Map) { m.Pool.K, m.Pool.M = 16, 17 },
		"K greatest":     func(m *api.Map) { m.Pool.K = math.MaxInt },
		"K + M overflow": func(m *api.Map) { m.Pool.K, m.Pool.M = math.MaxInt, math.MaxInt },
		"Pgs 0":          func(m *api.Map) { m.Pool.Pgs = 0 },
		"Pgs -1":         func(m *api.Map) { m.Pool.Pgs = -1 },
		"Pgs 33":         func(m *api.Map) { m.Pool.Pgs = 33 },
		"Pgs greatest":   func(m *api.Map) { m.Pool.Pgs = math.MaxInt },
		"Domain -1":      func(m *api.Map) { m.Pool.Domain = -1 },
		"Domain 3":       func(m *api.Map) { m.Pool.Domain = 3 },
	}
}

// Pl1, R1, R2: maps that may not be are refused, with placement groups that there are and
// others.
func TestWrongMaps(t *testing.T) {
	for what, m := range wrongMaps() {
		for _, pg := range append([]int{0, 1, 7, 31, 32}, wrongPgs(8)...) {
			refuses(t, what, m, pg)
		}
	}
}

// Pl1: maps at the edges of what may be are maps as others are.
func TestMapsAtTheEdges(t *testing.T) {
	low, high := town(1, 1, 1, 0), odd(31, 1, 32, 2)
	low.Epoch, high.Epoch = 0, 1<<20
	corners := of(1, 31, 32, 1,
		api.Osd{Id: 0, Up: true, In: true, Weight: 1, Life: greatest, Boot: greatest, Host: 999, Rack: 0},
		api.Osd{Id: 998, In: true, Weight: 1 << 24, Host: 0, Rack: 999},
		api.Osd{Id: 999, Up: true, In: true, Weight: 1 << 24, Life: 1, Boot: 1, Host: 1, Rack: 999},
	)
	full := wide(16, 16, 32, 64)
	for i := range full.Osds {
		full.Osds[i].Weight = 1 << 24
	}
	for _, m := range []api.Map{low, high, corners, full} {
		for pg := range m.Pool.Pgs {
			check(t, m, pg)
		}
	}
}
