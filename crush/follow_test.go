package crush_test

import (
	"slices"
	"testing"

	"mooring/api"
	"mooring/crush"
)

// follows looks at what Cr2 says of a choice.
func follows(t testing.TB, m api.Map, by api.Rule, l []*api.Osd) {
	t.Helper()
	osds, taken := map[int]int{}, map[int]int{}
	for _, o := range l {
		if o == nil {
			continue
		}
		osds[o.Id]++
		taken[which(by.Domain, *o)]++
		if osds[o.Id] > 1 || taken[which(by.Domain, *o)] > 1 {
			t.Fatalf("%+v, %+v: OSD %d, or its failure domain, has two places", m, by, o.Id)
		}
		if !o.In || o.Weight == 0 || !slices.Contains(m.Osds, *o) {
			t.Fatalf("%+v, %+v: %+v is chosen", m, by, *o)
		}
	}
	room := crush.Room(m, by.Domain)
	if len(taken) > room || room >= 1 && len(taken) == 0 || room >= 1 && by.Want == 1 && l[0] == nil {
		t.Fatalf("%+v, %+v: %d places are filled, and Room is %d", m, by, len(taken), room)
	}
}

// Cr2: no OSD and no failure domain has two places, and who is chosen is In and has
// weight, of what Choose itself tells.
func TestNobodyHasTwoPlaces(t *testing.T) {
	n := numbers(6)
	for kind := range mapKinds {
		for _, many := range sizes() {
			m := n.mapOf(kind, many)
			for _, domain := range domains() {
				by := rule(domain, 1+n.below(32))
				var l []*api.Osd
				for _, id := range chosen(t, m, by, n.next()) {
					if id == -1 {
						l = append(l, nil)
						continue
					}
					at := slices.IndexFunc(m.Osds, func(o api.Osd) bool { return o.Id == id })
					if at < 0 {
						t.Fatalf("%+v: OSD %d is chosen, that there is not", m, id)
					}
					l = append(l, &m.Osds[at])
				}
				follows(t, m, by, l)
			}
		}
	}
}

// Cr2: if Room is 1 at least and Want 1, there is no Hole: it is whom the first descent
// finds, whatever the domain.
func TestOnePlaceIsFilled(t *testing.T) {
	n := numbers(7)
	filled := 0
	for kind := range mapKinds {
		for _, many := range sizes() {
			for range 10 {
				m, x := n.mapOf(kind, many), n.next()
				for _, domain := range domains() {
					l := chosen(t, m, rule(domain, 1), x)
					if got := crush.Descend(m, x, 0); len(l) != 1 || l[0] != got || (got == -1) != (crush.Room(m, domain) == 0) {
						t.Fatalf("%+v: for %d %v is chosen, and a descent finds %d", m, x, l, got)
					}
					if l[0] != -1 {
						filled++
					}
				}
			}
		}
	}
	if filled < 1000 {
		t.Errorf("%d places are filled: too little was tested", filled)
	}
}

// Cr2: who is Up turns nothing; nor do lives, boots, the epoch and the pool.
func TestUpTurnsNothing(t *testing.T) {
	n := numbers(8)
	for kind := range mapKinds {
		for _, many := range []int{1, 3, 12, 64} {
			m := n.mapOf(kind, many)
			for round := range 8 {
				other := n.otherUp(m, round)
				x, r := n.next(), uint32(n.below(1600))
				if got, want := crush.Descend(other, x, r), crush.Descend(m, x, r); got != want {
					t.Fatalf("of %+v it finds %d, and of %+v %d", m, want, other, got)
				}
				for _, domain := range domains() {
					by := rule(domain, 1+n.below(8))
					if got, want := chosen(t, other, by, x), chosen(t, m, by, x); !slices.Equal(got, want) {
						t.Fatalf("of %+v %v are chosen, and of %+v %v", m, want, other, got)
					}
					if got, want := crush.Room(other, domain), crush.Room(m, domain); got != want {
						t.Fatalf("%+v has Room %d, and %+v %d", m, want, other, got)
					}
				}
			}
		}
	}
}

// otherUp is the same map with others Up: all of them, nobody, or some; in some rounds
// of another epoch and pool.
func (n *numbers) otherUp(m api.Map, round int) api.Map {
	m.Osds = slices.Clone(m.Osds)
	for i := range m.Osds {
		o := &m.Osds[i]
		o.Up = round == 0 || round > 1 && n.below(2) == 0
		o.Life, o.Boot = n.below(1<<31), n.below(1<<31)
		if o.Up {
			o.Life, o.Boot = max(o.Life, 1), max(o.Boot, 1)
		}
	}
	if round%2 == 1 {
		m.Epoch = api.MaxEpoch - n.below(2)
		m.Pool = api.Pool{K: 1 + n.below(16), M: 1 + n.below(16), Pgs: 1 + n.below(32), Domain: n.below(3)}
	}
	return m
}
