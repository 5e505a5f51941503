package crush_test

import (
	"math"
	"testing"

	"mooring/api"
	"mooring/crush"
)

// Cr1: rooms that are plain to see, of OSDs, hosts and racks.
func TestRoomOfKnownMaps(t *testing.T) {
	out := row(7, api.One, 8, 9)
	out.In = false
	for what, known := range map[string]struct {
		m    api.Map
		want [3]int
	}{
		"small":                         {small(), [3]int{5, 3, 2}},
		"odd":                           {odd(), [3]int{9, 7, 4}},
		"one":                           {holding(row(1, 1, 1, 1)), [3]int{1, 1, 1}},
		"two on a host":                 {holding(row(1, 1, 1, 1), row(2, 1, 1, 1)), [3]int{2, 1, 1}},
		"two in a rack":                 {holding(row(1, 1, 1, 1), row(2, 1, 2, 1)), [3]int{2, 2, 1}},
		"two racks, far apart":          {holding(row(1, 1, 1, 1), row(2, 1, 2, 2), row(3, 1, 1, 1)), [3]int{3, 2, 2}},
		"one out, alone":                {holding(out), [3]int{0, 0, 0}},
		"one out, and one in":           {holding(row(1, 1, 1, 1), out), [3]int{1, 1, 1}},
		"one out, and one on its host":  {holding(row(1, 1, 8, 9), out), [3]int{1, 1, 1}},
		"weight 0, and one in its rack": {holding(row(1, 0, 8, 9), row(2, 1, 7, 9)), [3]int{1, 1, 1}},
		"a host and a rack of number 0": {holding(row(0, 1, 0, 0)), [3]int{1, 1, 1}},
	} {
		for domain, want := range known.want {
			if got := crush.Room(known.m, domain); got != want {
				t.Errorf("%s: Room of domain %d is %d, want %d", what, domain, got, want)
			}
		}
	}
}

// Cr1: maps of every kind and size; and of nobody that has weight.
func TestRoom(t *testing.T) {
	n := numbers(9)
	for kind := range mapKinds {
		for many := range 65 {
			checkRoom(t, n.mapOf(kind, many))
		}
	}
	for _, m := range nobody() {
		for _, domain := range domains() {
			if got := crush.Room(m, domain); got != 0 {
				t.Errorf("Room(%+v, %d) = %d, want 0", m, domain, got)
			}
		}
	}
}

// Cr1, R1: of a domain that may not be Room is 0.
func TestRoomOfWrongDomains(t *testing.T) {
	for _, m := range []api.Map{small(), odd(), full(64, 64), holding()} {
		for _, domain := range wrongDomains() {
			if got := crush.Room(m, domain); got != 0 {
				t.Errorf("Room of domain %d is %d", domain, got)
			}
		}
	}
}

// Cr1, R1, R2: of a map that may not be, be it by ever so little, Descend finds nobody,
// Choose tells ErrArg, and Room is 0.
func TestWrongMaps(t *testing.T) {
	for what, m := range wrongMaps() {
		refuses(t, what, m)
	}
}

// wrongMaps are maps that may not be, each by one thing alone, but for the last ones.
func wrongMaps() map[string]api.Map {
	out := map[string]api.Map{
		"Ids fall":                   holding(row(2, 1, 1, 1), row(1, 1, 2, 1)),
		"Ids fall at the end":        holding(row(1, 1, 1, 1), row(3, 1, 2, 1), row(2, 1, 3, 1)),
		"an Id twice":                holding(row(1, 1, 1, 1), row(1, 1, 1, 1)),
		"an Id twice, far apart":     holding(row(1, 1, 1, 1), row(2, 1, 1, 1), row(1, 1, 1, 1)),
		"a host in two racks":        holding(row(1, 1, 1, 1), row(2, 1, 1, 2)),
		"a host in two racks, apart": holding(row(1, 1, 1, 1), row(2, 1, 2, 2), row(3, 1, 1, 2)),
		"65 OSDs":                    {Pool: holding().Pool, Osds: append(full(64, 8).Osds, row(999, 1, 900, 0))},
		"very many OSDs":             holding(make([]api.Osd, 1<<20)...),
		"the zero map":               {},
		"the zero map's pool":        {Osds: small().Osds},
	}
	for what, turn := range map[string]func(o *api.Osd){
		"Id -1":           func(o *api.Osd) { o.Id = -1 },
		"Id 1000":         func(o *api.Osd) { o.Id = 1000 },
		"Host -1":         func(o *api.Osd) { o.Host = -1 },
		"Host 1000":       func(o *api.Osd) { o.Host = 1000 },
		"Rack -1":         func(o *api.Osd) { o.Rack = -1 },
		"Rack 1000":       func(o *api.Osd) { o.Rack = 1000 },
		"Weight -1":       func(o *api.Osd) { o.Weight = -1 },
		"Weight 2^24 + 1": func(o *api.Osd) { o.Weight = heaviest + 1 },
		"Weight greatest": func(o *api.Osd) { o.Weight = math.MaxInt },
		"Weight least":    func(o *api.Osd) { o.Weight = math.MinInt },
		"Life -1":         func(o *api.Osd) { o.Life = -1 },
		"Life 2^31":       func(o *api.Osd) { o.Life = 1 << 31 },
		"Boot -1":         func(o *api.Osd) { o.Boot = -1 },
		"Boot 2^31":       func(o *api.Osd) { o.Boot = 1 << 31 },
		"Up without Life": func(o *api.Osd) { o.Up, o.Boot = true, 1 },
		"Up without Boot": func(o *api.Osd) { o.Up, o.Life = true, 1 },
		"far off in all": func(o *api.Osd) {
			o.Id, o.Up, o.Weight, o.Life, o.Boot, o.Host, o.Rack = math.MaxInt, true, math.MaxInt, -9, math.MinInt, math.MinInt, math.MaxInt
		},
	} {
		o := row(7, api.One, 3, 2)
		turn(&o)
		out[what+", alone"] = holding(o)
		for _, at := range []int{0, 3, 5} {
			m := small()
			turn(&m.Osds[at])
			out[what+", at the "+string(rune('0'+at))] = m
		}
	}
	for what, turn := range map[string]func(m *api.Map){
		"Epoch -1":       func(m *api.Map) { m.Epoch = -1 },
		"Epoch 2^20 + 1": func(m *api.Map) { m.Epoch = 1<<20 + 1 },
		"K 0":            func(m *api.Map) { m.Pool.K = 0 },
		"M 0":            func(m *api.Map) { m.Pool.M = 0 },
		"K + M 33":       func(m *api.Map) { m.Pool.K, m.Pool.M = 16, 17 },
		"K greatest":     func(m *api.Map) { m.Pool.K = math.MaxInt },
		"Pgs 0":          func(m *api.Map) { m.Pool.Pgs = 0 },
		"Pgs 33":         func(m *api.Map) { m.Pool.Pgs = 33 },
		"Domain -1":      func(m *api.Map) { m.Pool.Domain = -1 },
		"Domain 3":       func(m *api.Map) { m.Pool.Domain = 3 },
	} {
		for name, m := range map[string]api.Map{"small": small(), "odd": odd(), "without OSDs": holding()} {
			turn(&m)
			out[name+", "+what] = m
		}
	}
	return out
}

// Cr1: maps at the edges of what may be are maps as others are.
func TestMapsAtTheEdges(t *testing.T) {
	low, high := small(), odd()
	low.Epoch, low.Pool = 0, api.Pool{K: 1, M: 1, Pgs: 1}
	high.Epoch, high.Pool = 1<<20, api.Pool{K: 31, M: 1, Pgs: 32, Domain: 2}
	corners := holding(row(0, heaviest, 999, 0), row(1, 1, 0, 999), row(999, heaviest, 0, 999))
	corners.Osds[2].Up, corners.Osds[2].Life, corners.Osds[2].Boot = true, 1<<31-1, 1<<31-1
	for _, m := range []api.Map{low, high, corners} {
		checkRoom(t, m)
		for x := range uint32(50) {
			checkDescend(t, m, x, ^x)
			for _, domain := range domains() {
				checkChoose(t, m, rule(domain, 3), x)
			}
		}
	}
}
