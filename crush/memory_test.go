package crush_test

import (
	"slices"
	"sync"
	"testing"

	"mooring/api"
	"mooring/crush"
)

// askAll does all calls of a map, also such as are refused.
func askAll(m api.Map, n *numbers) {
	for _, domain := range append(domains(), -1, api.Domains) {
		for _, want := range []int{0, 1, 3, 32, 33} {
			crush.Choose(m, rule(domain, want), n.next())
		}
		crush.Room(m, domain)
	}
	crush.Descend(m, n.next(), n.next())
}

// R3: the map that is handed in stays as it was, and the room behind its OSDs' end; what
// stands there is not looked at.
func TestMapsStay(t *testing.T) {
	n := numbers(10)
	for kind := range mapKinds {
		whole := n.mapOf(kind, 30)
		was := slices.Clone(whole.Osds)
		for many := range 31 {
			m := whole
			m.Osds = whole.Osds[:many]
			askAll(m, &n)
			part := whole
			part.Osds = slices.Clone(whole.Osds[:many])
			x := n.next()
			if got, want := crush.Descend(m, x, 1), crush.Descend(part, x, 1); got != want {
				t.Fatalf("it finds %d, and with nothing behind the end %d", got, want)
			}
		}
		if !slices.Equal(whole.Osds, was) {
			t.Fatalf("%+v has become %+v", was, whole.Osds)
		}
	}
	for what, m := range wrongMaps() {
		was := slices.Clone(m.Osds)
		askAll(m, &n)
		if !slices.Equal(m.Osds, was) {
			t.Fatalf("%s: the map is turned", what)
		}
	}
}

// R3: what Choose answers is new memory, its spare room too: to write there turns no
// other answer, and not the map.
func TestAnswersAreNew(t *testing.T) {
	n := numbers(11)
	for kind := range mapKinds {
		m := n.mapOf(kind, 20)
		was := slices.Clone(m.Osds)
		for _, want := range []int{1, 3, 32} {
			by, x := rule(kind%3, want), n.next()
			kept, other := chosen(t, m, by, x), chosen(t, m, by, x)
			ahead := slices.Clone(kept)
			for i := range other[:cap(other)] {
				other[:cap(other)][i] = -7
			}
			again := chosen(t, m, by, x)
			if !slices.Equal(kept, ahead) || !slices.Equal(again, ahead) || !slices.Equal(m.Osds, was) {
				t.Fatalf("%v has become %v, and is %v when asked again", ahead, kept, again)
			}
			clear(m.Osds)
			if !slices.Equal(kept, ahead) {
				t.Fatalf("the answer turns with the map")
			}
			copy(m.Osds, was)
		}
	}
}

// R4: the same is answered again, whatever was asked ahead, and whatever others ask of
// the same map at the same time.
func TestAnswersHangOnArgumentsAlone(t *testing.T) {
	from := numbers(12)
	m := from.mapOf(someOut, 24)
	var all sync.WaitGroup
	for worker := range 8 {
		all.Go(func() {
			n := numbers(worker % 2)
			for range 40 {
				x, r := n.next(), n.next()
				checkDescendQuietly(t, m, x, r)
				by := rule(n.below(3), 1+n.below(5))
				var want []int
				for _, o := range slowChoose(m.Osds, by, x) {
					want = append(want, idOf(o))
				}
				if got, errno := crush.Choose(m, by, x); errno != api.OK || !slices.Equal(got, want) {
					t.Errorf("another answer at %+v, %d", by, x)
				}
				if crush.Room(m, by.Domain) != slowRoom(m.Osds, by.Domain) {
					t.Errorf("another room of domain %d", by.Domain)
				}
			}
		})
	}
	all.Wait()
}

// checkDescendQuietly is checkDescend for what is no test's own goroutine, where a test
// may not end.
func checkDescendQuietly(t testing.TB, m api.Map, x, r uint32) {
	t.Helper()
	o, ok := slowDescend(m.Osds, x, r)
	if got := crush.Descend(m, x, r); got != o.Id && ok || got != -1 && !ok {
		t.Errorf("another descent at %d, %d", x, r)
	}
}

var keep int

func BenchmarkDescend(b *testing.B) {
	m := full(16, 4)
	for i := range b.N {
		keep ^= crush.Descend(m, uint32(i), 7)
	}
}

func BenchmarkChoose(b *testing.B) {
	for name, m := range map[string]api.Map{"much room": full(64, 8), "little room": full(64, 1)} {
		b.Run(name, func(b *testing.B) {
			for i := range b.N {
				l, _ := crush.Choose(m, api.Rule{Domain: api.DomainRack, Want: 6}, uint32(i))
				keep ^= l[0]
			}
		})
	}
}
