package place_test

import (
	"slices"
	"sync"
	"testing"

	"mooring/api"
	"mooring/place"
)

// R3: the map that is handed in stays as it was, and the room behind its OSDs' end; what
// stands there is not looked at.
func TestMapsStay(t *testing.T) {
	n := numbers(6)
	for kind := range mapKinds {
		whole := n.mapOf(kind, 30)
		was := slices.Clone(whole.Osds)
		for many := range 31 {
			m := whole
			m.Osds = whole.Osds[:many]
			alone := whole
			alone.Osds = slices.Clone(whole.Osds[:many])
			pg := n.below(m.Pool.Pgs)
			if got, want := check(t, m, pg), check(t, alone, pg); !got.same(want) {
				t.Fatalf("of %d %+v is told, and with nothing behind the end %+v", pg, got, want)
			}
			ask(m, -1)
			ask(m, m.Pool.Pgs)
		}
		if !slices.Equal(whole.Osds, was) {
			t.Fatalf("%+v has become %+v", was, whole.Osds)
		}
	}
	for what, m := range wrongMaps() {
		was := slices.Clone(m.Osds)
		ask(m, 0)
		ask(m, -1)
		if !slices.Equal(m.Osds, was) {
			t.Fatalf("%s: the map is turned", what)
		}
	}
}

// R3: what is answered is new memory, its spare room too: to write there turns no other
// answer, not the other list of the same one, and not the map.
func TestAnswersAreNew(t *testing.T) {
	n := numbers(7)
	for kind := range mapKinds {
		m := n.mapOf(kind, 20)
		was := slices.Clone(m.Osds)
		for pg := range m.Pool.Pgs {
			want := slow(m, pg)
			for turned := range 4 {
				kept, other := check(t, m, pg), check(t, m, pg)
				scribble([][]int{other.up, other.acting, other.lives, other.boots}[turned])
				lists := [][]int{other.up, other.acting, other.lives, other.boots}
				for i, l := range [][]int{want.up, want.acting, want.lives, want.boots} {
					if i != turned && !slices.Equal(lists[i], l) {
						t.Fatalf("to write into list %d turns list %d", turned, i)
					}
				}
				if again := check(t, m, pg); !again.same(want) || !kept.same(want) || !slices.Equal(m.Osds, was) {
					t.Fatalf("to write into list %d turns another answer, or the map", turned)
				}
				clear(m.Osds)
				if !kept.same(want) {
					t.Fatalf("the answer turns with the map")
				}
				copy(m.Osds, was)
			}
		}
	}
}

// scribble writes into a list and the room behind its end.
func scribble(l []int) {
	for i := range l[:cap(l)] {
		l[:cap(l)][i] = -77
	}
}

// R4: the same is answered again, whatever was asked ahead, and whatever others ask of
// the same map at the same time.
func TestAnswersHangOnArgumentsAlone(t *testing.T) {
	from := numbers(8)
	m := from.mapOf(someUp, 24)
	var all sync.WaitGroup
	for worker := range 8 {
		all.Go(func() {
			n := numbers(worker % 2)
			for range 60 {
				pg := n.below(m.Pool.Pgs)
				if got, ok := ask(m, pg); !ok || !got.same(slow(m, pg)) {
					t.Errorf("another answer of %d", pg)
				}
				if got, errno := place.Pg("a", 31); errno != api.OK || got != 17 {
					t.Errorf("\"a\" is in %d, error %d", got, errno)
				}
			}
		})
	}
	all.Wait()
}

var keep int

func BenchmarkPg(b *testing.B) {
	for range b.N {
		pg, _ := place.Pg("object-17", 32)
		keep ^= pg
	}
}

func BenchmarkActing(b *testing.B) {
	for name, m := range map[string]api.Map{"town": town(2, 1, 32, api.DomainHost), "wide": wide(4, 2, 32, 64)} {
		b.Run(name, func(b *testing.B) {
			for i := range b.N {
				l, _ := place.Acting(m, i%32)
				keep ^= l[0]
			}
		})
	}
}
