package place_test

import (
	"slices"
	"testing"

	"mooring/api"
	"mooring/atlas"
	"mooring/place"
)

// Pl2: who keeps a placement group is to keep it, in the same place, and is up; who is to
// keep it and is up keeps it; and its primary is one of them.
func TestKeepersAreToKeepAndUp(t *testing.T) {
	t.Parallel()
	n := numbers(4)
	kept := 0
	for kind := range mapKinds {
		for _, many := range sizes() {
			for range 5 {
				m := n.mapOf(kind, many)
				for pg := range m.Pool.Pgs {
					kept += follows(t, m, pg)
				}
			}
		}
	}
	if kept < 3000 {
		t.Errorf("%d keep placement groups: too little was tested", kept)
	}
}

// follows looks at what Pl2 says of a placement group, by the map alone, and tells how
// many keep it.
func follows(t testing.TB, m api.Map, pg int) int {
	t.Helper()
	got, ok := ask(m, pg)
	if !ok || len(got.up) != len(got.acting) {
		t.Fatalf("%+v: of %d %+v is told", m, pg, got)
	}
	kept := 0
	for i, id := range got.acting {
		if o, _ := atlas.Find(m, got.up[i]); id == -1 && o.Up {
			t.Fatalf("%+v: %d is to keep %d, and is up, and does not", m, got.up[i], pg)
		}
		if id == -1 {
			continue
		}
		kept++
		o, ok := atlas.Find(m, id)
		if !ok || !o.Up || id != got.up[i] || got.lives[i] != o.Life || got.boots[i] != o.Boot {
			t.Fatalf("%+v: %d keeps %d, with life %d and boot %d", m, id, pg, got.lives[i], got.boots[i])
		}
	}
	if (got.primary == -1) != (kept == 0) || got.whole != (kept == m.Pool.K+m.Pool.M) {
		t.Fatalf("%+v: %d keep %d, and %+v is told", m, kept, pg, got)
	}
	return kept
}

// Pl1, Pl2: who is to keep placement groups does not hang on who is Up, nor on lives,
// boots and the epoch; who keeps them hangs on who is Up alone.
func TestUpDoesNotTurnWhoIsToKeep(t *testing.T) {
	n := numbers(5)
	for kind := range mapKinds {
		for _, many := range []int{1, 3, 12, 64} {
			m := n.mapOf(kind, many)
			other := m
			other.Epoch = n.below(1<<20 + 1)
			other.Osds = slices.Clone(m.Osds)
			for i := range other.Osds {
				o := &other.Osds[i]
				o.Up, o.Life, o.Boot = n.below(2) == 0, 1+n.below(9), 1+n.below(9)
			}
			for pg := range m.Pool.Pgs {
				one, two := check(t, m, pg), check(t, other, pg)
				if !slices.Equal(one.up, two.up) {
					t.Fatalf("%+v: %v are to keep %d, and of %+v %v", m, one.up, pg, other, two.up)
				}
			}
		}
	}
}

// Pl1: as OSDs go down and come up anew, by layer 13's changes, their places stay, and
// their lives and boots are the new ones.
func TestDownAndUpAgain(t *testing.T) {
	m := wide(2, 2, 4, 9)
	for pg := range 4 {
		was := check(t, m, pg)
		for i, id := range was.up {
			gone := applied(t, m, api.Change{Kind: api.ChangeDown, Osd: api.Osd{Id: id}})
			if got := check(t, gone, pg); got.acting[i] != -1 || got.lives[i] != 0 || got.boots[i] != 0 || got.whole {
				t.Fatalf("with %d down %+v is told", id, got)
			}
			back := applied(t, gone, api.Change{Kind: api.ChangeUp, Osd: api.Osd{Id: id, Life: 77, Boot: 66}})
			got := check(t, back, pg)
			if !slices.Equal(got.acting, was.acting) || got.lives[i] != 77 || got.boots[i] != 66 || !got.whole {
				t.Fatalf("with %d back %+v is told", id, got)
			}
			out := applied(t, m, api.Change{Kind: api.ChangeOut, Osd: api.Osd{Id: id}})
			if l, errno := place.Acting(out, pg); errno != api.OK || slices.Contains(l, id) {
				t.Fatalf("with %d out %v keep %d", id, l, pg)
			}
		}
	}
}

// applied is the map behind a change.
func applied(t testing.TB, m api.Map, c api.Change) api.Map {
	t.Helper()
	next, errno := atlas.Apply(m, c)
	if errno != api.OK {
		t.Fatalf("%+v is refused by %d", c, errno)
	}
	return next
}
