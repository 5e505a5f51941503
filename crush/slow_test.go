package crush_test

import (
	"maps"
	"math"
	"slices"
	"testing"

	"mooring/api"
	"mooring/crush"
	"mooring/mix"
	"mooring/straw"
)

// heaviest is the greatest weight that an OSD may have, and tries how many descents a
// place has, as the document says them.
const (
	heaviest = 16777216
	tries    = 50
)

// slowWeight is what OSDs weigh: those that are In, their Weight.
func slowWeight(l []api.Osd) int {
	sum := 0
	for _, o := range l {
		if o.In {
			sum += o.Weight
		}
	}
	return sum
}

// which is the number that an OSD has of a domain.
func which(domain int, o api.Osd) int {
	return [...]int{api.DomainOsd: o.Id, api.DomainHost: o.Host, api.DomainRack: o.Rack}[domain]
}

// parted is OSDs by their numbers of a domain.
func parted(l []api.Osd, domain int) map[int][]api.Osd {
	out := map[int][]api.Osd{}
	for _, o := range l {
		out[which(domain, o)] = append(out[which(domain, o)], o)
	}
	return out
}

// slowStep is one step of the chapter's descent: those of some OSDs that are left.
func slowStep(l []api.Osd, domain int, level, x, r uint32) []api.Osd {
	parts := parted(l, domain)
	var weighed []api.Weighed
	for _, number := range slices.Sorted(maps.Keys(parts)) {
		weighed = append(weighed, api.Weighed{Id: number, Weight: slowWeight(parts[number])})
	}
	at := straw.Choose(weighed, mix.Hash2(x, level), r)
	if at < 0 {
		return nil
	}
	return parts[weighed[at].Id]
}

// slowDescend is a descent by the chapter's words; false: it finds nobody. It uses
// nothing of the package, but the calls of layers 15 and 16 that the words name.
func slowDescend(l []api.Osd, x, r uint32) (api.Osd, bool) {
	rack := slowStep(l, api.DomainRack, 1, x, r)
	host := slowStep(rack, api.DomainHost, 2, x, r)
	one := slowStep(host, api.DomainOsd, 3, x, r)
	if len(one) == 0 {
		return api.Osd{}, false
	}
	return one[0], true
}

// slowChoose is a choice by the chapter's words: of each place its OSD, nil of a Hole.
func slowChoose(l []api.Osd, rule api.Rule, x uint32) []*api.Osd {
	var out []*api.Osd
	for place := 0; place < rule.Want; place++ {
		out = append(out, slowPlace(l, rule, x, place, out))
	}
	return out
}

// slowPlace is who has a place, behind those that have the places ahead.
func slowPlace(l []api.Osd, rule api.Rule, x uint32, place int, ahead []*api.Osd) *api.Osd {
	for t := 0; t < tries; t++ {
		o, ok := slowDescend(l, x, uint32(place+t*rule.Want))
		if ok && fresh(rule.Domain, o, ahead) {
			return &o
		}
	}
	return nil
}

// fresh tells whether nobody ahead is the same OSD, or in its failure domain.
func fresh(domain int, o api.Osd, ahead []*api.Osd) bool {
	return !slices.ContainsFunc(ahead, func(had *api.Osd) bool {
		return had != nil && (had.Id == o.Id || which(domain, *had) == which(domain, o))
	})
}

// slowRoom is how many failure domains have weight.
func slowRoom(l []api.Osd, domain int) int {
	n := 0
	for _, part := range parted(l, domain) {
		if slowWeight(part) > 0 {
			n++
		}
	}
	return n
}

// idOf is what is told of a place.
func idOf(o *api.Osd) int {
	if o == nil {
		return -1
	}
	return o.Id
}

// checkDescend holds a descent against the chapter's words.
func checkDescend(t testing.TB, m api.Map, x, r uint32) {
	t.Helper()
	want := -1
	if o, ok := slowDescend(m.Osds, x, r); ok {
		want = o.Id
	}
	if got := crush.Descend(m, x, r); got != want {
		t.Fatalf("Descend(%+v, %d, %d) = %d, want %d", m, x, r, got, want)
	}
}

// checkChoose holds a choice against the chapter's words, and tells who has which place.
func checkChoose(t testing.TB, m api.Map, rule api.Rule, x uint32) []*api.Osd {
	t.Helper()
	slow := slowChoose(m.Osds, rule, x)
	var want []int
	for _, o := range slow {
		want = append(want, idOf(o))
	}
	if got, errno := crush.Choose(m, rule, x); errno != api.OK || !slices.Equal(got, want) {
		t.Fatalf("Choose(%+v, %+v, %d) = %v, error %d, want %v", m, rule, x, got, errno, want)
	}
	return slow
}

// checkRoom holds the room of every domain against the chapter's words.
func checkRoom(t testing.TB, m api.Map) {
	t.Helper()
	for _, domain := range domains() {
		if got, want := crush.Room(m, domain), slowRoom(m.Osds, domain); got != want {
			t.Fatalf("Room(%+v, %d) = %d, want %d", m, domain, got, want)
		}
	}
}

// refuses looks whether all calls refuse a map that may not be.
func refuses(t testing.TB, what string, m api.Map) {
	t.Helper()
	for _, domain := range append(domains(), wrongDomains()...) {
		for _, want := range []int{-1, 0, 1, 3, api.MaxShards, api.MaxShards + 1} {
			if l, errno := crush.Choose(m, api.Rule{Domain: domain, Want: want}, 7); errno != api.ErrArg || len(l) != 0 {
				t.Errorf("%s: Choose with domain %d, want %d: %v, error %d", what, domain, want, l, errno)
			}
		}
		if got := crush.Room(m, domain); got != 0 {
			t.Errorf("%s: Room of domain %d is %d", what, domain, got)
		}
	}
	for _, x := range asked() {
		if got := crush.Descend(m, x, ^x); got != -1 {
			t.Errorf("%s: Descend finds %d", what, got)
		}
	}
}

// domains are those that there are, and wrongDomains others, also such whose lowest bits
// alone would be one.
func domains() []int { return []int{api.DomainOsd, api.DomainHost, api.DomainRack} }

func wrongDomains() []int {
	return []int{-1, api.Domains, -2, -3, 4, 255, 256, 1 << 32, 1<<32 + 1, -1 << 32, math.MaxInt, math.MinInt, math.MinInt + 1}
}

// wants are all numbers of places, and wrongWants others.
func wants() []int {
	var out []int
	for want := 1; want <= 32; want++ {
		out = append(out, want)
	}
	return out
}

func wrongWants() []int {
	return []int{-1, 0, 33, -2, -32, 34, 64, 65, 256, 1<<32 + 1, 1<<32 + 3, -1 << 32, 1 << 40, math.MaxInt, math.MaxInt - 1, math.MinInt, math.MinInt + 3}
}

// asked are numbers x and r to ask for.
func asked() []uint32 {
	return []uint32{0, 1, 2, 3, 50, 1599, 0xFFFF, 0x10000, 1 << 31, math.MaxUint32 - 1, math.MaxUint32, 0x61C8864F, 0x7A143589}
}

// holding is a map of OSDs.
func holding(l ...api.Osd) api.Map {
	return api.Map{Epoch: 5, Pool: api.Pool{K: 2, M: 1, Pgs: 8}, Osds: l}
}

// row is an OSD that is In, by its Id, Weight, Host and Rack.
func row(id, weight, host, rack int) api.Osd {
	return api.Osd{Id: id, In: true, Weight: weight, Host: host, Rack: rack}
}

// numbers is a stream of numbers, the same in every run.
type numbers uint64

func (n *numbers) next() uint32 {
	*n = *n*6364136223846793005 + 1442695040888963407
	return uint32(*n >> 32)
}

// below is a number from 0 to most - 1.
func (n *numbers) below(most int) int { return int(n.next() % uint32(most)) }

// sample is unlike numbers from 0 to 999, in no order.
func (n *numbers) sample(many int) []int {
	all := make([]int, 1000)
	for i := range all {
		all[i] = i
	}
	for i := range many {
		j := i + n.below(len(all)-i)
		all[i], all[j] = all[j], all[i]
	}
	return all[:many]
}

// weightOfAnySize is 0, a weight of 1 bit to 24, or the greatest.
func (n *numbers) weightOfAnySize() int {
	size := n.below(26)
	switch size {
	case 24:
		return heaviest
	case 25:
		return 0
	}
	return 1<<size | n.below(1<<size)
}

// The kinds of maps that mapOf makes.
const (
	builtAlike  = iota // all as heavy, and all In
	anyWeights         // weights of every size
	someOut            // weights of every size, some not In
	lightOnes          // weights of 0 to 2, some not In
	heavyOnes          // as heavy as may be
	aloneEach          // each on a host and in a rack of its own
	oneRack            // all in one rack
	oneHost            // all on one host
	sameNumbers        // OSDs, hosts and racks have the same small numbers
	mapKinds
)

// mapOf is a map of a kind that may be, the same in every run: hosts and racks have
// numbers in no order, and some OSDs are Up.
func (n *numbers) mapOf(kind, many int) api.Map {
	racks, hosts := 1+n.below(5), 1+n.below(12)
	switch kind {
	case aloneEach:
		racks, hosts = 64, 64
	case oneRack:
		racks = 1
	case oneHost:
		racks, hosts = 1, 1
	}
	ids := n.sample(many)
	slices.Sort(ids)
	rackNumbers, hostNumbers := n.sample(racks), n.sample(hosts)
	if kind == sameNumbers {
		for i := range hostNumbers {
			hostNumbers[i] = i
		}
		for i := range rackNumbers {
			rackNumbers[i] = i
		}
	}
	m := holding()
	for i, id := range ids {
		host := n.below(hosts)
		if kind == aloneEach {
			host = i
		}
		o := api.Osd{Id: id, In: true, Weight: api.One, Host: hostNumbers[host], Rack: rackNumbers[host%racks]}
		if kind == sameNumbers {
			o.Id = i
		}
		m.Osds = append(m.Osds, n.turned(kind, o))
	}
	return m
}

// turned is an OSD with the weight of a kind of maps, and Up or not.
func (n *numbers) turned(kind int, o api.Osd) api.Osd {
	if n.below(2) == 0 {
		o.Up, o.Life, o.Boot = true, 1+n.below(9), 1+n.below(9)
	}
	switch kind {
	case anyWeights, aloneEach:
		o.Weight = n.weightOfAnySize()
	case someOut, oneRack:
		o.Weight, o.In = n.weightOfAnySize(), n.below(3) > 0
	case lightOnes:
		o.Weight, o.In = n.below(3), n.below(3) > 0
	case heavyOnes:
		o.Weight = heaviest - n.below(2)
	case oneHost:
		o.Weight, o.In = api.One<<n.below(4), n.below(9) > 0
	}
	return o
}

// sizes is how many OSDs the maps of the tests have.
func sizes() []int { return []int{0, 1, 2, 3, 4, 6, 9, 16, 33, 63, 64} }
