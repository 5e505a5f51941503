package crush_test

import (
	"slices"
	"testing"

	"mooring/api"
	"mooring/crush"
)

// rule is how to choose.
func rule(domain, want int) api.Rule { return api.Rule{Domain: domain, Want: want} }

// chosen is a choice that is no error.
func chosen(t testing.TB, m api.Map, by api.Rule, x uint32) []int {
	t.Helper()
	l, errno := crush.Choose(m, by, x)
	if errno != api.OK {
		t.Fatalf("Choose(%+v, %+v, %d): error %d", m, by, x, errno)
	}
	return l
}

// The chapter's example: three OSDs on three hosts, Want 3: three unlike ones, or a Hole,
// if 50 descents meet the same two. One of them is light, so that both come.
func TestExample(t *testing.T) {
	m := holding(row(0, api.One, 0, 0), row(1, api.One/30, 1, 0), row(2, api.One, 2, 0))
	whole, holes := 0, 0
	for _, domain := range []int{api.DomainOsd, api.DomainHost} {
		for x := range uint32(300) {
			l := chosen(t, m, rule(domain, 3), x)
			at := slices.Index(l, api.Hole)
			if at < 0 {
				if got := slices.Sorted(slices.Values(l)); !slices.Equal(got, []int{0, 1, 2}) {
					t.Fatalf("for %d %v are chosen", x, l)
				}
				whole++
				continue
			}
			holes++
			for try := range uint32(50) {
				if id := crush.Descend(m, x, uint32(at)+3*try); !slices.Contains(l[:at], id) {
					t.Fatalf("for %d %v are chosen, though descent %d meets %d", x, l, try, id)
				}
			}
		}
	}
	if whole < 100 || holes < 20 {
		t.Errorf("%d whole and %d with a Hole: too little was tested", whole, holes)
	}
	alike := holding(row(0, api.One, 0, 0), row(1, api.One, 1, 0), row(2, api.One, 2, 0))
	for x := range uint32(1000) {
		if l := slices.Sorted(slices.Values(chosen(t, alike, rule(api.DomainHost, 3), x))); !slices.Equal(l, []int{0, 1, 2}) {
			t.Fatalf("for %d %v are chosen", x, l)
		}
	}
}

// Cr1: choices that were worked out elsewhere, by the chapter's words, for 0, 7 and
// 2^32 - 1. Some have Holes ahead of places that are filled.
func TestChooseOfKnownNumbers(t *testing.T) {
	for _, known := range []struct {
		m    api.Map
		by   api.Rule
		want [3][]int
	}{
		{small(), rule(api.DomainOsd, 1), [3][]int{{4}, {1}, {1}}},
		{small(), rule(api.DomainOsd, 3), [3][]int{{4, 0, 3}, {1, 3, 0}, {1, 4, 5}}},
		{small(), rule(api.DomainOsd, 4), [3][]int{{4, 0, 3, 5}, {1, 3, 5, 4}, {1, 4, 0, 5}}},
		{small(), rule(api.DomainOsd, 6), [3][]int{{4, 0, 3, 5, 1, -1}, {1, 3, 0, 5, 4, -1}, {1, 4, 0, 5, 3, -1}}},
		{small(), rule(api.DomainHost, 2), [3][]int{{4, 0}, {1, 3}, {1, 4}}},
		{small(), rule(api.DomainHost, 3), [3][]int{{4, 0, 3}, {1, 3, 4}, {1, 4, 3}}},
		{small(), rule(api.DomainHost, 4), [3][]int{{4, 0, 3, -1}, {1, 3, 5, -1}, {1, 4, 3, -1}}},
		{small(), rule(api.DomainRack, 2), [3][]int{{4, 0}, {1, 5}, {1, 4}}},
		{small(), rule(api.DomainRack, 3), [3][]int{{4, 0, -1}, {1, 4, -1}, {1, 4, -1}}},
		{odd(), rule(api.DomainOsd, 1), [3][]int{{0}, {777}, {777}}},
		{odd(), rule(api.DomainOsd, 4), [3][]int{{0, 999, 11, 777}, {777, 0, -1, 999}, {777, 0, 9, 500}}},
		{odd(), rule(api.DomainOsd, 6), [3][]int{{0, 999, 11, 777, -1, 41}, {777, 0, 999, 40, -1, 500}, {777, 0, 40, 999, 9, -1}}},
		{odd(), rule(api.DomainOsd, 9), [3][]int{
			{0, 777, 11, 500, 999, 9, -1, -1, 41}, {777, 0, 999, 40, 9, -1, -1, 500, 41}, {777, 0, 999, -1, -1, 40, 9, -1, -1},
		}},
		{odd(), rule(api.DomainHost, 4), [3][]int{{0, 999, 11, 41}, {777, 0, -1, 9}, {777, 0, 9, -1}}},
		{odd(), rule(api.DomainHost, 9), [3][]int{
			{0, 777, 11, 500, -1, -1, -1, -1, 41}, {777, 0, -1, 40, 9, -1, -1, -1, 41}, {777, 0, 41, -1, -1, 40, 9, -1, -1},
		}},
		{odd(), rule(api.DomainRack, 3), [3][]int{{0, 999, 11}, {777, 0, -1}, {777, 0, 40}}},
		{odd(), rule(api.DomainRack, 9), [3][]int{
			{0, 777, 11, -1, -1, -1, -1, -1, 41}, {777, 0, -1, 40, 9, -1, -1, -1, -1}, {777, 0, 41, -1, -1, -1, 9, -1, -1},
		}},
	} {
		for i, x := range []uint32{0, 7, 0xFFFFFFFF} {
			if got := chosen(t, known.m, known.by, x); !slices.Equal(got, known.want[i]) {
				t.Errorf("Choose(%+v, %+v, %d) = %v, want %v", known.m, known.by, x, got, known.want[i])
			}
		}
	}
}

// Cr1: maps of every kind and size, by every domain, for many x, held against the
// chapter's words; and Cr2, of each choice.
func TestChoose(t *testing.T) {
	t.Parallel()
	n := numbers(5)
	filled, holes, between := 0, 0, 0
	for kind := range mapKinds {
		for _, many := range sizes() {
			for range 3 {
				m := n.mapOf(kind, many)
				for _, domain := range domains() {
					for _, want := range []int{1, 2, 3, 1 + n.below(32)} {
						l := checkChoose(t, m, rule(domain, want), n.next())
						follows(t, m, rule(domain, want), l)
						for i, o := range l {
							switch {
							case o != nil:
								filled++
							case slices.ContainsFunc(l[i:], func(o *api.Osd) bool { return o != nil }):
								between++
							default:
								holes++
							}
						}
					}
				}
			}
		}
	}
	if filled < 5000 || holes < 3000 || between < 100 {
		t.Errorf("%d places, %d Holes, and %d ahead of places: too little was tested", filled, holes, between)
	}
}

// Cr1: every number of places, in maps of much room and of little.
func TestChooseOfEveryWant(t *testing.T) {
	t.Parallel()
	for _, m := range []api.Map{small(), odd(), full(64, 64), full(16, 4)} {
		for _, domain := range domains() {
			for _, want := range wants() {
				for _, x := range []uint32{1, 0xFFFFFFFE} {
					l := checkChoose(t, m, rule(domain, want), x)
					follows(t, m, rule(domain, want), l)
				}
			}
		}
	}
}

// Cr1: as many OSDs as may be, as heavy as may be, on one host, in one rack, and each
// alone: all of them are one weight of 2^30, that draws.
func TestChooseInFullMaps(t *testing.T) {
	t.Parallel()
	for _, shape := range []struct {
		hosts, racks int
		room         [3]int // of OSDs, hosts and racks
	}{
		{1, 1, [3]int{64, 1, 1}},
		{2, 1, [3]int{64, 2, 1}},
		{2, 2, [3]int{64, 2, 2}},
		{32, 16, [3]int{64, 32, 16}},
		{64, 1, [3]int{64, 64, 1}},
		{64, 64, [3]int{64, 64, 64}},
	} {
		m := full(shape.hosts, shape.racks)
		for domain, room := range shape.room {
			if got := crush.Room(m, domain); got != room {
				t.Errorf("%+v: Room of domain %d is %d", shape, domain, got)
			}
			for x := range uint32(20) {
				l := chosen(t, m, rule(domain, 32), x)
				places := slices.DeleteFunc(slices.Clone(l), func(id int) bool { return id == -1 })
				if len(l) != 32 || l[0] == -1 || len(places) > room || room == 1 && len(places) != 1 || room == 64 && len(places) != 32 {
					t.Errorf("%+v, domain %d, for %d: %v", shape, domain, x, l)
				}
				if x < 3 {
					checkChoose(t, m, rule(domain, 32), x)
				}
			}
		}
	}
}

// Cr1: where nobody has weight all places are Holes.
func TestChooseOfNobody(t *testing.T) {
	for _, m := range nobody() {
		for _, domain := range domains() {
			for _, want := range []int{1, 2, 3, 31, 32} {
				l := chosen(t, m, rule(domain, want), uint32(want))
				if len(l) != want || slices.ContainsFunc(l, func(id int) bool { return id != -1 }) {
					t.Fatalf("Choose(%+v) = %v", m, l)
				}
			}
		}
	}
}

// Cr1: of one OSD the first place has it, and all others are Holes.
func TestChooseOfOne(t *testing.T) {
	for _, o := range []api.Osd{row(0, 1, 0, 0), row(999, heaviest, 999, 999), row(8, api.One, 7, 6)} {
		for _, domain := range domains() {
			for _, want := range wants() {
				for _, x := range asked() {
					l := chosen(t, holding(o), rule(domain, want), x)
					others := slices.ContainsFunc(l[1:], func(id int) bool { return id != -1 })
					if len(l) != want || l[0] != o.Id || others {
						t.Fatalf("of %+v alone %v are chosen", o, l)
					}
				}
			}
		}
	}
}

// Cr1: a place has 50 descents: whom the last of them meets has it, and whom only the
// one behind it would meet has not.
func TestTries(t *testing.T) {
	t.Parallel()
	m := holding(row(2, api.One, 2, 2), row(5, api.One/40, 1, 1), row(6, api.One/40, 0, 0), row(9, api.One, 9, 9))
	last, beyond := 0, 0
	for x := range uint32(400) {
		for _, want := range []int{2, 3, 4} {
			l := chosen(t, m, rule(int(x%3), want), x)
			for place, id := range l {
				switch first(m, l[:place], want, place, x) {
				case 49:
					last++
					if id != crush.Descend(m, x, uint32(place+49*want)) {
						t.Fatalf("for %d %v are chosen: place %d has not whom its last descent meets", x, l, place)
					}
				case 50:
					beyond++
					if id != -1 {
						t.Fatalf("for %d %v are chosen: place %d has whom more than 50 descents meet", x, l, place)
					}
				}
			}
		}
	}
	if last < 5 || beyond < 5 {
		t.Errorf("%d met by the last descent, %d by the one behind it: too little was tested", last, beyond)
	}
}

// first is which descent for a place meets one that none of the places ahead has, from 0
// on; 100: none of a hundred. Each OSD of the map is in domains of its own.
func first(m api.Map, ahead []int, want, place int, x uint32) int {
	for try := range 100 {
		if !slices.Contains(ahead, crush.Descend(m, x, uint32(place+try*want))) {
			return try
		}
	}
	return 100
}

// Cr1: a Hole takes no descents from the places behind it, and no domain.
func TestHolesAheadOfPlaces(t *testing.T) {
	t.Parallel()
	m := holding(row(1, heaviest, 1, 1), row(2, heaviest, 2, 1), row(3, api.One*2, 3, 3), row(4, api.One*2, 4, 4), row(5, api.One*2, 5, 3))
	seen := 0
	for _, domain := range domains() {
		for x := range uint32(300) {
			l := checkChoose(t, m, rule(domain, 5), x)
			at := slices.Index(l, nil)
			if at >= 0 && slices.ContainsFunc(l[at:], func(o *api.Osd) bool { return o != nil }) {
				seen++
			}
		}
	}
	if seen < 50 {
		t.Errorf("%d choices have a Hole ahead of a place: too little was tested", seen)
	}
}

// Cr1, R1, R2: rules that may not be: ErrArg, and nothing beside it, also at maps of
// which nobody has weight.
func TestWrongRules(t *testing.T) {
	for _, m := range []api.Map{small(), odd(), full(64, 64), holding()} {
		refused := func(by api.Rule) {
			t.Helper()
			for _, x := range []uint32{0, 7, 0xFFFFFFFF} {
				if l, errno := crush.Choose(m, by, x); errno != api.ErrArg || len(l) != 0 {
					t.Errorf("Choose with %+v: %v, error %d", by, l, errno)
				}
			}
		}
		for _, domain := range append(domains(), wrongDomains()...) {
			for _, want := range wrongWants() {
				refused(rule(domain, want))
			}
		}
		for _, domain := range wrongDomains() {
			for _, want := range wants() {
				refused(rule(domain, want))
			}
		}
		for _, domain := range domains() {
			for _, want := range wants() {
				if l := chosen(t, m, rule(domain, want), 7); len(l) != want {
					t.Errorf("Want %d: %v", want, l)
				}
			}
		}
	}
}
