package atlas_test

import (
	"bytes"
	"maps"
	"math"
	"slices"
	"testing"

	"mooring/api"
	"mooring/atlas"
)

// The limits, as the chapter says them.
const (
	topId     = 999
	topWeight = 16777216
	topTime   = 2147483647
	topEpoch  = 1048576
)

// vector is an OSD's parts, in the order of its bytes.
type vector [8]int

// The places of a vector.
const (
	atId = iota
	atUp
	atIn
	atWeight
	atLife
	atBoot
	atHost
	atRack
	places
)

// vectorOf and osd lead from an OSD to its vector, and back; true is 1.
func vectorOf(o api.Osd) vector {
	var v vector
	for at, is := range map[int]bool{atUp: o.Up, atIn: o.In} {
		if is {
			v[at] = 1
		}
	}
	v[atId], v[atWeight], v[atLife], v[atBoot], v[atHost], v[atRack] = o.Id, o.Weight, o.Life, o.Boot, o.Host, o.Rack
	return v
}

func (v vector) osd() api.Osd {
	return api.Osd{Id: v[atId], Up: v[atUp] != 0, In: v[atIn] != 0, Weight: v[atWeight], Life: v[atLife], Boot: v[atBoot], Host: v[atHost], Rack: v[atRack]}
}

// pools is all pools that may be, written down one by one.
func pools() map[api.Pool]int {
	out := map[api.Pool]int{}
	for shards := 2; shards <= 32; shards++ {
		for k := 1; k < shards; k++ {
			for pgs := 1; pgs <= 32; pgs++ {
				for _, domain := range []int{api.DomainOsd, api.DomainHost, api.DomainRack} {
					out[api.Pool{K: k, M: shards - k, Pgs: pgs, Domain: domain}] = shards
				}
			}
		}
	}
	return out
}

// slowPool says whether a pool may be: whether all that it is made of is left when
// what is beyond the limits is cut off.
func slowPool(p api.Pool) bool {
	cut := p
	cut.K = min(max(p.K, 1), 31)
	cut.M = min(max(p.M, 1), 32-cut.K)
	cut.Pgs = min(max(p.Pgs, 1), 32)
	cut.Domain = min(max(p.Domain, 0), 2)
	return cut == p
}

// slowOsd says whether an OSD may be, by the limits of each part.
func slowOsd(o api.Osd) bool {
	v := vectorOf(o)
	low := vector{atLife: v[atUp], atBoot: v[atUp]}
	high := vector{topId, 1, 1, topWeight, topTime, topTime, topId, topId}
	for at, n := range v {
		if n != max(n, low[at]) || n != min(n, high[at]) {
			return false
		}
	}
	return true
}

// slowMap says whether a map may be: its OSDs by Ids, and the Racks of each Host.
func slowMap(m api.Map) bool {
	if m.Epoch < 0 || m.Epoch > topEpoch || !slowPool(m.Pool) || len(m.Osds) > 64 {
		return false
	}
	ids := map[int]int{}
	racks := map[[2]int]int{}
	hosts := map[int]int{}
	for i, o := range m.Osds {
		if !slowOsd(o) {
			return false
		}
		ids[o.Id] = i
		racks[[2]int{o.Host, o.Rack}]++
		hosts[o.Host]++
	}
	for i, id := range slices.Sorted(maps.Keys(ids)) {
		if ids[id] != i {
			return false
		}
	}
	return len(ids) == len(m.Osds) && len(racks) == len(hosts)
}

// has is the parts that a kind of changes has beside the Id; false: there is no such
// kind.
func has(kind int) ([]int, bool) {
	switch kind {
	case api.ChangeAdd:
		return []int{atUp, atIn, atWeight, atLife, atBoot, atHost, atRack}, true
	case api.ChangeUp:
		return []int{atLife, atBoot}, true
	case api.ChangeWeight:
		return []int{atWeight}, true
	case api.ChangeDown, api.ChangeIn, api.ChangeOut:
		return nil, true
	}
	return nil, false
}

// slowChange says whether a change may be: nothing is left of its parts when those
// are taken away that it has.
func slowChange(c api.Change) bool {
	parts, there := has(c.Kind)
	rest := vectorOf(c.Osd)
	rest[atId] = 0
	for _, at := range parts {
		rest[at] = 0
	}
	if !there || rest != (vector{}) || !slowOsd(c.Osd) {
		return false
	}
	return c.Kind != api.ChangeUp || c.Osd.Life > 0 && c.Osd.Boot > 0
}

// slowNext is what a change makes of an OSD's vector.
func slowNext(v vector, c api.Change) vector {
	set := map[int]vector{
		api.ChangeUp:     {atUp: 1, atLife: c.Osd.Life, atBoot: c.Osd.Boot},
		api.ChangeDown:   {},
		api.ChangeIn:     {atIn: 1},
		api.ChangeOut:    {},
		api.ChangeWeight: {atWeight: c.Osd.Weight},
	}[c.Kind]
	which := map[int][]int{
		api.ChangeUp:     {atUp, atLife, atBoot},
		api.ChangeDown:   {atUp},
		api.ChangeIn:     {atIn},
		api.ChangeOut:    {atIn},
		api.ChangeWeight: {atWeight},
	}[c.Kind]
	for _, at := range which {
		v[at] = set[at]
	}
	return v
}

// wrongs is all errors of a change at a map, in the order in which the chapter names
// them, whether another one is ahead of them or not.
func wrongs(m api.Map, c api.Change) []api.Errno {
	var out []api.Errno
	tell := func(errno api.Errno, applies bool) {
		if applies {
			out = append(out, errno)
		}
	}
	tell(api.ErrArg, !slowChange(c) || !slowMap(m) || m.Epoch == topEpoch)
	var there, elsewhere, turns bool
	for _, o := range m.Osds {
		there = there || o.Id == c.Osd.Id
		elsewhere = elsewhere || o.Host == c.Osd.Host && o.Rack != c.Osd.Rack
		turns = turns || o.Id == c.Osd.Id && slowNext(vectorOf(o), c) != vectorOf(o)
	}
	if c.Kind == api.ChangeAdd {
		tell(api.ErrSame, there)
		tell(api.ErrFull, len(m.Osds) >= 64)
		tell(api.ErrArg, elsewhere)
		return out
	}
	tell(api.ErrNone, !there)
	tell(api.ErrSame, there && !turns)
	return out
}

// slowApply is the map behind a change, laid anew from OSDs by their Ids.
func slowApply(m api.Map, c api.Change) (api.Map, api.Errno) {
	if l := wrongs(m, c); len(l) > 0 {
		return api.Map{}, l[0]
	}
	byId := map[int]api.Osd{}
	if c.Kind == api.ChangeAdd {
		byId[c.Osd.Id] = c.Osd
	}
	for _, o := range m.Osds {
		byId[o.Id] = o
		if c.Kind != api.ChangeAdd && o.Id == c.Osd.Id {
			byId[o.Id] = slowNext(vectorOf(o), c).osd()
		}
	}
	next := api.Map{Epoch: m.Epoch + 1, Pool: m.Pool}
	for _, id := range slices.Sorted(maps.Keys(byId)) {
		next.Osds = append(next.Osds, byId[id])
	}
	return next, api.OK
}

// slowNumber is a number without sign: its digits to the base 128.
func slowNumber(n int) []byte {
	out := []byte{byte(n % 128)}
	for n /= 128; n > 0; n /= 128 {
		out[len(out)-1] += 128
		out = append(out, byte(n%128))
	}
	return out
}

// slowNumbers is numbers, one behind the other.
func slowNumbers(l ...int) []byte {
	var out []byte
	for _, n := range l {
		out = append(out, slowNumber(n)...)
	}
	return out
}

// listed is all numbers of a map, and listedChange of a change, in the order of their
// bytes.
func listed(m api.Map) []int {
	out := []int{m.Epoch, m.Pool.K, m.Pool.M, m.Pool.Pgs, m.Pool.Domain, len(m.Osds)}
	for _, o := range m.Osds {
		v := vectorOf(o)
		out = append(out, v[:]...)
	}
	return out
}

func listedChange(c api.Change) []int {
	v := vectorOf(c.Osd)
	return append([]int{c.Kind}, v[:]...)
}

// lax reads numbers in any form: they may have more digits than they need. false: the
// bytes are not numbers alone.
func lax(b []byte) ([]int, bool) {
	var out []int
	n, unit := 0, 1
	for _, digit := range b {
		if unit > 1<<42 {
			return nil, false
		}
		n += unit * int(digit%128)
		unit *= 128
		if digit < 128 {
			out = append(out, n)
			n, unit = 0, 1
		}
	}
	return out, unit == 1
}

// slowDecode is the map whose bytes are just these; false: there is none.
func slowDecode(b []byte) (api.Map, bool) {
	l, ok := lax(b)
	if !ok || len(l) < 6 || (len(l)-6)%places != 0 {
		return api.Map{}, false
	}
	m := api.Map{Epoch: l[0], Pool: api.Pool{K: l[1], M: l[2], Pgs: l[3], Domain: l[4]}}
	for part := range slices.Chunk(l[6:], places) {
		m.Osds = append(m.Osds, vector(part).osd())
	}
	if !slowMap(m) || !bytes.Equal(slowNumbers(listed(m)...), b) {
		return api.Map{}, false
	}
	return m, true
}

// slowDecodeChange is the change whose bytes are just these; false: there is none.
func slowDecodeChange(b []byte) (api.Change, bool) {
	l, ok := lax(b)
	if !ok || len(l) != 1+places {
		return api.Change{}, false
	}
	c := api.Change{Kind: l[0], Osd: vector(l[1:]).osd()}
	if !slowChange(c) || !bytes.Equal(slowNumbers(listedChange(c)...), b) {
		return api.Change{}, false
	}
	return c, true
}

// same says whether two maps are.
func same(a, b api.Map) bool {
	return slices.Equal(listed(a), listed(b))
}

// is says which error is told where something may be, or may not.
func is(may bool) api.Errno {
	if may {
		return api.OK
	}
	return api.ErrArg
}

// checks looks at what Check and Encode tell of a map, and Decode of its bytes.
func checks(t testing.TB, m api.Map, may bool) {
	t.Helper()
	if got := atlas.Check(m); got != is(may) {
		t.Fatalf("Check(%+v): error %d, and not %d", m, got, is(may))
	}
	b, errno := atlas.Encode(m)
	if errno != is(may) {
		t.Fatalf("Encode(%+v): error %d, and not %d", m, errno, is(may))
	}
	if !may {
		if len(b) != 0 {
			t.Fatalf("Encode(%+v): %X beside an error", m, b)
		}
		return
	}
	if !bytes.Equal(b, slowNumbers(listed(m)...)) {
		t.Fatalf("Encode(%+v): %X, and not %X", m, b, slowNumbers(listed(m)...))
	}
	decodes(t, b, m)
}

// decodes looks whether bytes are those of a map.
func decodes(t testing.TB, b []byte, want api.Map) {
	t.Helper()
	if m, errno := atlas.Decode(b); errno != api.OK || !same(m, want) || !atlas.Same(m, want) {
		t.Fatalf("Decode(%X): %+v, error %d, and not %+v", b, m, errno, want)
	}
}

// refusesBytes looks whether bytes are those of no map.
func refusesBytes(t testing.TB, what string, b []byte) {
	t.Helper()
	if m, errno := atlas.Decode(b); errno != api.ErrText || !zero(m) {
		t.Fatalf("%s: Decode(%X): %+v, error %d", what, b, m, errno)
	}
}

// checksChange looks at what CheckChange and EncodeChange tell of a change, and
// DecodeChange of its bytes.
func checksChange(t testing.TB, c api.Change, may bool) {
	t.Helper()
	if got := atlas.CheckChange(c); got != is(may) {
		t.Fatalf("CheckChange(%+v): error %d, and not %d", c, got, is(may))
	}
	b, errno := atlas.EncodeChange(c)
	if errno != is(may) {
		t.Fatalf("EncodeChange(%+v): error %d, and not %d", c, errno, is(may))
	}
	if !may {
		if len(b) != 0 {
			t.Fatalf("EncodeChange(%+v): %X beside an error", c, b)
		}
		return
	}
	if !bytes.Equal(b, slowNumbers(listedChange(c)...)) {
		t.Fatalf("EncodeChange(%+v): %X, and not %X", c, b, slowNumbers(listedChange(c)...))
	}
	if got, errno := atlas.DecodeChange(b); errno != api.OK || got != c {
		t.Fatalf("DecodeChange(%X): %+v, error %d, and not %+v", b, got, errno, c)
	}
}

// refusesChangeBytes looks whether bytes are those of no change.
func refusesChangeBytes(t testing.TB, what string, b []byte) {
	t.Helper()
	if c, errno := atlas.DecodeChange(b); errno != api.ErrText || c != (api.Change{}) {
		t.Fatalf("%s: DecodeChange(%X): %+v, error %d", what, b, c, errno)
	}
}

// applies looks at what Apply tells, and that it turns nothing that is handed in.
func applies(t testing.TB, m api.Map, c api.Change) (api.Map, api.Errno) {
	t.Helper()
	was := slices.Clone(m.Osds)
	want, wrong := slowApply(m, c)
	got, errno := atlas.Apply(m, c)
	if errno != wrong || !same(got, want) {
		t.Fatalf("Apply(%+v, %+v): %+v, error %d, and not %+v, error %d", m, c, got, errno, want, wrong)
	}
	if !slices.Equal(was, m.Osds) {
		t.Fatalf("Apply(%+v, %+v) turned the map: it was %+v", m, c, was)
	}
	return got, errno
}

// refuses looks whether a change at a map tells an error, and the zero map.
func refuses(t testing.TB, what string, m api.Map, c api.Change, want api.Errno) {
	t.Helper()
	if got, errno := atlas.Apply(m, c); errno != want || !zero(got) {
		t.Errorf("%s: Apply(%+v, %+v): %+v, error %d, and not %d", what, m, c, got, errno, want)
	}
	applies(t, m, c)
}

// zero says whether a map is the zero one.
func zero(m api.Map) bool {
	return m.Epoch == 0 && m.Pool == api.Pool{} && len(m.Osds) == 0
}

// edges is the edges of an OSD's part, and numbers far beyond them.
func edges(at int) []int {
	switch at {
	case atUp, atIn:
		return []int{0, 1}
	case atWeight:
		return []int{0, 1, 127, 128, api.One, topWeight - 1, topWeight, topWeight + 1, -1, math.MaxInt, math.MinInt}
	case atLife, atBoot:
		return []int{0, 1, 2, 127, 128, topTime - 1, topTime, topTime + 1, -1, math.MaxInt, math.MinInt}
	}
	return []int{0, 1, 127, 128, 998, 999, 1000, -1, math.MaxInt, math.MinInt}
}

// few is the pool of most tests.
func few() api.Pool { return api.Pool{K: 2, M: 1, Pgs: 4} }

// holding is a map of such OSDs.
func holding(l ...api.Osd) api.Map { return api.Map{Epoch: 5, Pool: few(), Osds: l} }

// crowd is so many OSDs, every second Id from 2 on, three on a host, two hosts in a
// rack, all parts of all kinds.
func crowd(many int) []api.Osd {
	out := make([]api.Osd, many)
	for i := range out {
		out[i] = api.Osd{Id: 2 + 2*i, Up: i%2 == 0, In: i%3 > 0, Weight: i * api.One, Life: 1 + i%5, Boot: i%2 + 1, Host: i / 3, Rack: i / 6}
		out[i].Weight %= topWeight + 1
	}
	return out
}

// numbers is a stream of numbers that look like chance, and are always the same.
type numbers uint64

func (n *numbers) below(limit int) int {
	*n = *n*6364136223846793005 + 1442695040888963407
	return int(uint64(*n)>>33) % limit
}

// osd is one of a stream, that may be: of few Ids, on few hosts, that are in the rack
// of half their number.
func (n *numbers) osd(ids int) api.Osd {
	o := api.Osd{Id: n.below(ids), Up: n.below(2) == 0, In: n.below(2) == 0, Weight: n.below(3) * api.One, Life: n.below(3), Boot: n.below(3), Host: n.below(6)}
	if o.Up {
		o.Life, o.Boot = o.Life+1, o.Boot+1
	}
	o.Rack = o.Host / 2
	if n.below(20) == 0 {
		o.Rack = n.below(4)
	}
	return o
}

// change is one of a stream: mostly one that may be.
func (n *numbers) change(ids int) api.Change {
	o := n.osd(ids)
	c := api.Change{Kind: 1 + n.below(api.ChangeKinds-1), Osd: api.Osd{Id: o.Id}}
	switch c.Kind {
	case api.ChangeAdd:
		c.Osd = o
	case api.ChangeUp:
		c.Osd.Life, c.Osd.Boot = 1+n.below(2), 1+n.below(2)
	case api.ChangeWeight:
		c.Osd.Weight = o.Weight
	}
	switch n.below(30) {
	case 0:
		v := vectorOf(c.Osd)
		at := n.below(places)
		v[at] = edges(at)[n.below(len(edges(at)))]
		c.Osd = v.osd()
	case 1:
		c.Kind = n.below(12) - 3
	}
	return c
}

// pool is one of a stream, that may be.
func (n *numbers) pool() api.Pool {
	k := 1 + n.below(31)
	return api.Pool{K: k, M: 1 + n.below(32-k), Pgs: 1 + n.below(32), Domain: n.below(3)}
}

// made is a map of a stream, that may be.
func (n *numbers) made() api.Map {
	m := api.Map{Epoch: n.below(1 << (1 + n.below(20))), Pool: n.pool()}
	gap := 1 << n.below(11)
	for id := n.below(gap); id < 1000 && len(m.Osds) < 64; id += 1 + n.below(gap) {
		host := n.below(1000)
		o := api.Osd{Id: id, In: n.below(2) == 0, Weight: n.below(1<<n.below(25) + 1), Life: n.below(1 << n.below(32)), Boot: n.below(1 << n.below(32)), Host: host, Rack: host * 7 % 1000}
		o.Up = o.Life > 0 && o.Boot > 0 && n.below(3) > 0
		m.Osds = append(m.Osds, o)
	}
	return m
}
