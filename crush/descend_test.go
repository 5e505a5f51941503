package crush_test

import (
	"slices"
	"testing"

	"mooring/api"
	"mooring/crush"
	"mooring/mix"
	"mooring/straw"
)

// small is six OSDs alike on three hosts in two racks, one of them not In.
func small() api.Map {
	m := holding()
	for id := range 6 {
		m.Osds = append(m.Osds, row(id, api.One, id/2, id/4))
	}
	m.Osds[2].In = false
	return m
}

// odd is a map whose hosts and racks have numbers that do not rise with the Ids, with
// weights of every size.
func odd() api.Map {
	m := holding(
		row(0, heaviest, 999, 7), row(3, 1, 5, 7), row(4, api.One, 999, 7), row(9, 100000, 12, 3), row(11, api.One, 0, 3), row(12, 0, 0, 3),
		row(40, 3*api.One, 800, 999), row(41, api.One, 801, 999), row(500, 2*api.One, 12, 3), row(777, 5000000, 2, 0), row(998, 1, 3, 0), row(999, 900000, 2, 0),
	)
	m.Osds[2].In, m.Osds[10].In = false, false
	return m
}

// full is 64 OSDs as heavy as may be, on so many hosts in so many racks.
func full(hosts, racks int) api.Map {
	m := holding()
	for i := range 64 {
		host := i % hosts
		m.Osds = append(m.Osds, row(999-64+i, heaviest, 999-host, host%racks))
	}
	return m
}

// Cr1: descents that were worked out elsewhere, by the chapter's words.
func TestDescendOfKnownNumbers(t *testing.T) {
	for _, known := range []struct {
		m        api.Map
		byX, byR []int
		far      [3]int
	}{
		{
			small(),
			[]int{4, 4, 5, 4, 3, 3, 3, 1, 4, 5, 3, 3, 3, 0, 5, 0, 4, 3, 0, 0, 1, 5, 1, 0},
			[]int{1, 3, 1, 5, 4, 3, 3, 4, 0, 4, 5, 1, 1, 5, 4, 5, 5, 3, 0, 1, 0, 0, 4, 0},
			[3]int{1, 1, 3},
		},
		{
			odd(),
			[]int{0, 40, 0, 999, 777, 0, 0, 777, 9, 0, 0, 0, 0, 777, 0, 0, 0, 0, 777, 777, 777, 0, 777, 0},
			[]int{777, 0, 0, 0, 777, 0, 0, 0, 0, 0, 0, 0, 777, 0, 0, 0, 0, 999, 0, 999, 777, 0, 0, 777},
			[3]int{0, 777, 777},
		},
	} {
		check := func(x, r uint32, want int) {
			t.Helper()
			if got := crush.Descend(known.m, x, r); got != want {
				t.Errorf("Descend(%+v, %d, %d) = %d, want %d", known.m, x, r, got, want)
			}
		}
		for i := range known.byX {
			check(uint32(i), 0, known.byX[i])
			check(7, uint32(i), known.byR[i])
		}
		check(0xFFFFFFFF, 0xFFFFFFFF, known.far[0])
		check(0x80000000, 1599, known.far[1])
		check(0x61C8864F, 0x7A143589, known.far[2])
	}
}

// Cr1: maps of every kind and size, for many x and r, step by step.
func TestDescend(t *testing.T) {
	n := numbers(1)
	for kind := range mapKinds {
		for _, many := range sizes() {
			for range 6 {
				m := n.mapOf(kind, many)
				for range 20 {
					checkDescend(t, m, n.next(), uint32(n.below(1600)))
				}
			}
		}
	}
	for _, m := range []api.Map{small(), odd(), full(64, 64), full(1, 1)} {
		for _, x := range asked() {
			for _, r := range asked() {
				checkDescend(t, m, x, r)
			}
		}
	}
}

// Cr1: nobody is found where nobody has weight: in a map without OSDs, of none that is
// In, and of weights 0 alone.
func TestDescendFindsNobody(t *testing.T) {
	for _, m := range nobody() {
		for _, x := range asked() {
			for _, r := range asked() {
				if got := crush.Descend(m, x, r); got != -1 {
					t.Fatalf("Descend(%+v, %d, %d) = %d, want -1", m, x, r, got)
				}
			}
		}
	}
}

// nobody are maps of which nobody has weight.
func nobody() []api.Map {
	noRoom := holding(row(1, api.One, 1, 1), row(2, api.One, 2, 2))
	noRoom.Osds = noRoom.Osds[:0]
	out := []api.Map{holding(), {Pool: holding().Pool, Osds: []api.Osd{}}, noRoom, holding(row(7, 0, 3, 4)), holding(api.Osd{Id: 0, Weight: heaviest})}
	n := numbers(2)
	for _, many := range []int{1, 2, 9, 64} {
		isOut, isLight, both := n.mapOf(anyWeights, many), n.mapOf(someOut, many), n.mapOf(someOut, many)
		for i := range many {
			isOut.Osds[i].In = false
			isLight.Osds[i].Weight = 0
			both.Osds[i].In = both.Osds[i].In && i%2 == 0
			if both.Osds[i].In {
				both.Osds[i].Weight = 0
			}
		}
		out = append(out, isOut, isLight, both)
	}
	return out
}

// Cr1: of one that has weight it is always found, be it ever so light, wherever it is.
func TestDescendFindsTheOnlyOne(t *testing.T) {
	n := numbers(3)
	for _, weight := range []int{1, 2, 1000, api.One, heaviest - 1, heaviest} {
		for _, o := range []api.Osd{row(0, weight, 0, 0), row(999, weight, 999, 999), row(5, weight, 0, 999), row(17, weight, 999, 0)} {
			for _, m := range []api.Map{holding(o), n.among(o)} {
				for range 50 {
					x, r := n.next(), n.next()
					if got := crush.Descend(m, x, r); got != o.Id {
						t.Fatalf("Descend(%+v, %d, %d) = %d, want %d", m, x, r, got, o.Id)
					}
				}
			}
		}
	}
}

// among is a map of one OSD, and of others on its host, in its rack and elsewhere that
// have no weight.
func (n *numbers) among(o api.Osd) api.Map {
	m := holding(o)
	for _, id := range n.sample(30) {
		if id == o.Id {
			continue
		}
		other := api.Osd{Id: id, Host: 100 + id%7, Rack: 100 + id%7%3}
		switch id % 3 {
		case 0:
			other.Host, other.Rack = o.Host, o.Rack
		case 1:
			other.Host, other.Rack = 200+id%2, o.Rack
		}
		if id%2 == 0 {
			other.Weight = heaviest
		} else {
			other.In = true
		}
		m.Osds = append(m.Osds, other)
	}
	slices.SortFunc(m.Osds, func(a, b api.Osd) int { return a.Id - b.Id })
	return m
}

// Cr1: of racks, of hosts and of OSDs that draw alike the least number's is chosen, not
// that of the first OSD in the map. Which two draw alike is looked for.
func TestDescendAtAlikeDraws(t *testing.T) {
	// The OSDs' numbers cannot but rise; hosts and racks have theirs the other way round.
	turn := func(domain, i int) api.Osd {
		o := row(i, heaviest, 0, 0)
		switch domain {
		case api.DomainRack:
			o.Host, o.Rack = 900-i, 900-i
		case api.DomainHost:
			o.Host = 900 - i
		}
		return o
	}
	for domain, level := range map[int]uint32{api.DomainRack: 1, api.DomainHost: 2, api.DomainOsd: 3} {
		m := holding()
		for i := range 64 {
			m.Osds = append(m.Osds, turn(domain, i))
		}
		found := 0
		for x := uint32(0); found < 5; x++ {
			if x > 100000 {
				t.Fatalf("domain %d: only %d draws are alike: too little was tested", domain, found)
			}
			o, alike := leastOf(m.Osds, domain, mix.Hash2(x, level), 0)
			if !alike {
				continue
			}
			found++
			if got := crush.Descend(m, x, 0); got != o.Id {
				t.Fatalf("domain %d: for %d it finds %d, want %d", domain, x, got, o.Id)
			}
		}
	}
}

// leastOf is who has the least draw; of several the least number, and true.
func leastOf(l []api.Osd, domain int, x, r uint32) (api.Osd, bool) {
	var best api.Osd
	least, alike := -1, false
	for _, o := range l {
		draw, _ := straw.Draw(api.Weighed{Id: which(domain, o), Weight: o.Weight}, x, r)
		if least < 0 || draw < least {
			best, least, alike = o, draw, false
			continue
		}
		if draw == least {
			alike = true
			if which(domain, o) < which(domain, best) {
				best = o
			}
		}
	}
	return best, alike
}

// Cr1: who weighs twice as much is found twice as often, through racks and hosts.
func TestDescendByWeight(t *testing.T) {
	m := holding(
		row(1, api.One, 50, 8), row(2, 2*api.One, 50, 8), row(3, 3*api.One, 40, 8), row(4, api.One, 30, 5),
		row(5, 0, 30, 5), row(6, 4*api.One, 30, 5), row(7, 8*api.One, 20, 5), row(8, 9*api.One, 50, 8), row(9, api.One, 10, 900),
	)
	m.Osds[7].In = false
	const all = 50000
	for _, by := range []func(i uint32) int{
		func(i uint32) int { return crush.Descend(m, i, 3) },
		func(i uint32) int { return crush.Descend(m, 3, i) },
	} {
		n := map[int]int{}
		for i := range uint32(all) {
			n[by(i)]++
		}
		for _, o := range m.Osds {
			want := all * slowWeight([]api.Osd{o}) / slowWeight(m.Osds)
			if n[o.Id] < want-all/70 || n[o.Id] > want+all/70 || want == 0 && n[o.Id] > 0 {
				t.Errorf("%+v is found %d times, want about %d", o, n[o.Id], want)
			}
		}
	}
}

// Cr1: who is In, and what it weighs, is all that is looked at beside the numbers: one
// that is not In is as one of weight 0, and as one that there is not.
func TestOutIsWeightless(t *testing.T) {
	n := numbers(4)
	for range 60 {
		isOut := n.mapOf(someOut, 2+n.below(20))
		isLight, isGone := isOut, isOut
		isLight.Osds, isGone.Osds = slices.Clone(isOut.Osds), nil
		for i, o := range isOut.Osds {
			if !o.In {
				isLight.Osds[i].In, isLight.Osds[i].Weight = true, 0
			}
			if o.In && o.Weight > 0 {
				isGone.Osds = append(isGone.Osds, o)
			}
		}
		for range 20 {
			x, r := n.next(), n.next()
			want := crush.Descend(isOut, x, r)
			if light, gone := crush.Descend(isLight, x, r), crush.Descend(isGone, x, r); light != want || gone != want {
				t.Fatalf("of %+v it finds %d; with weights 0 %d, without them %d", isOut, want, light, gone)
			}
		}
	}
}
