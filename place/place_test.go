package place_test

import (
	"slices"
	"testing"

	"mooring/api"
	"mooring/place"
)

// The chapter's example: three OSDs in, one down: two keep it, in its place is a Hole.
func TestExample(t *testing.T) {
	for gone := range 3 {
		m := down(wide(2, 1, 32, 3), gone)
		for pg := range 32 {
			got := check(t, m, pg)
			if s := slices.Sorted(slices.Values(got.up)); !slices.Equal(s, []int{0, 1, 2}) {
				t.Fatalf("%v are to keep %d", got.up, pg)
			}
			for i, id := range got.up {
				if id == gone && got.acting[i] != -1 || id != gone && got.acting[i] != id {
					t.Fatalf("%v are to keep %d, and with %d down %v do", got.up, pg, gone, got.acting)
				}
			}
			if got.whole {
				t.Fatalf("%d is whole with %d down", pg, gone)
			}
		}
	}
}

// Pl1: who is to keep placement groups, and who does, worked out elsewhere by the
// document's words.
func TestKnownGroups(t *testing.T) {
	for _, known := range []struct {
		m          api.Map
		pg         int
		up, acting []int
	}{
		{town(2, 1, 8, 0), 0, []int{7, 3, 4}, []int{7, 3, 4}},
		{town(2, 1, 8, 0), 7, []int{3, 7, 1}, []int{3, 7, -1}},
		{town(2, 2, 8, 1), 0, []int{7, 3, 4, 0}, []int{7, 3, 4, 0}},
		{town(2, 2, 8, 1), 1, []int{7, 3, 4, 1}, []int{7, 3, 4, -1}},
		{town(2, 2, 8, 1), 7, []int{3, 7, 0, 4}, []int{3, 7, 0, 4}},
		{town(1, 1, 32, 2), 0, []int{7, 4}, []int{7, 4}},
		{town(1, 1, 32, 2), 1, []int{7, 3}, []int{7, 3}},
		{town(1, 1, 32, 2), 31, []int{4, 7}, []int{4, 7}},
		{town(4, 3, 5, 0), 0, []int{7, 1, 4, 0, 5, 3, -1}, []int{7, -1, 4, 0, -1, 3, -1}},
		{town(4, 3, 5, 0), 1, []int{7, 3, 4, 1, 0, 5, -1}, []int{7, 3, 4, -1, 0, -1, -1}},
		{town(4, 3, 5, 0), 4, []int{7, 5, 3, 0, 1, 4, -1}, []int{7, -1, 3, 0, -1, 4, -1}},
		{town(2, 1, 3, 2), 2, []int{4, 7, 0}, []int{4, 7, 0}},
		{odd(2, 1, 8, 0), 0, []int{3, 8, 777}, []int{3, -1, -1}},
		{odd(2, 1, 8, 0), 7, []int{777, 3, 500}, []int{-1, 3, 500}},
		{odd(2, 2, 8, 1), 0, []int{3, 777, 8, 999}, []int{3, -1, -1, 999}},
		{odd(2, 2, 8, 1), 7, []int{777, 3, 999, 40}, []int{-1, 3, 999, 40}},
		{odd(1, 1, 32, 2), 31, []int{999, 3}, []int{999, 3}},
		{odd(4, 3, 5, 0), 0, []int{3, 777, 500, 8, 999, -1, -1}, []int{3, -1, 500, -1, 999, -1, -1}},
		{odd(4, 3, 5, 0), 4, []int{3, 777, 8, 999, 40, -1, -1}, []int{3, -1, -1, 999, 40, -1, -1}},
	} {
		got, ok := ask(known.m, known.pg)
		if !ok || !slices.Equal(got.up, known.up) || !slices.Equal(got.acting, known.acting) {
			t.Errorf("%+v: %v are to keep %d, and %v do, want %v and %v", known.m.Pool, got.up, known.pg, got.acting, known.up, known.acting)
		}
	}
}

// Pl1: lives and boots that are plain to see: of who is Up the map's, of who is to keep it
// and is not Up 0, though the map has some, and 0 of a Hole.
func TestKnownLives(t *testing.T) {
	for _, known := range []struct {
		m            api.Map
		pg           int
		lives, boots []int
	}{
		{town(2, 1, 8, 0), 0, []int{18, 14, 15}, []int{8, 4, 5}},
		{town(2, 1, 8, 0), 7, []int{14, 18, 0}, []int{4, 8, 0}},
		{town(4, 3, 5, 0), 0, []int{18, 0, 15, 11, 0, 14, 0}, []int{8, 0, 5, 1, 0, 4, 0}},
		{odd(2, 1, 8, 0), 7, []int{0, greatest, 1}, []int{0, 1, 1}},
		{odd(2, 2, 8, 1), 0, []int{greatest, 0, 0, 7}, []int{1, 0, 0, 3}},
		{odd(4, 3, 5, 0), 4, []int{greatest, 0, 0, 7, 6, 0, 0}, []int{1, 0, 0, 3, 9, 0, 0}},
	} {
		lives, boots, errno := place.Lives(known.m, known.pg)
		if errno != api.OK || !slices.Equal(lives, known.lives) || !slices.Equal(boots, known.boots) {
			t.Errorf("%+v: %d has lives %v, boots %v, error %d, want %v and %v", known.m.Pool, known.pg, lives, boots, errno, known.lives, known.boots)
		}
	}
}

// Pl1: maps of every kind and size, with pools of many kinds, every placement group of
// each, held against the chapter's words.
func TestEveryGroup(t *testing.T) {
	t.Parallel()
	n := numbers(1)
	seen := map[string]int{}
	for kind := range mapKinds {
		for _, many := range sizes() {
			for range 5 {
				m := n.mapOf(kind, many)
				for pg := range m.Pool.Pgs {
					count(seen, check(t, m, pg))
				}
			}
		}
	}
	for _, what := range []string{"kept", "down", "nobody to keep", "whole", "no primary", "first place's primary", "later place's primary"} {
		if seen[what] < 300 {
			t.Errorf("%d of %q: too little was tested", seen[what], what)
		}
	}
}

// count adds up what was seen of a placement group.
func count(seen map[string]int, got told) {
	for i, id := range got.up {
		switch {
		case id == -1:
			seen["nobody to keep"]++
		case got.acting[i] == -1:
			seen["down"]++
		default:
			seen["kept"]++
		}
	}
	switch {
	case got.whole:
		seen["whole"]++
	case got.primary == -1:
		seen["no primary"]++
	}
	switch slices.Index(got.acting, got.primary) {
	case 0:
		if got.primary != -1 {
			seen["first place's primary"]++
		}
	default:
		seen["later place's primary"]++
	}
}

// Pl1: there are as many places as K and M are together, whatever they are, by each
// domain, also where there are too few OSDs for them.
func TestEveryPool(t *testing.T) {
	t.Parallel()
	for k := 1; k <= 31; k += 3 {
		for m := 1; k+m <= 32; m += 5 {
			for domain := range api.Domains {
				for _, x := range []api.Map{town(k, m, 2, domain), odd(k, m, 2, domain), wide(k, m, 2, 64)} {
					for pg := range 2 {
						got := check(t, x, pg)
						if len(got.up) != k+m || len(got.acting) != k+m || len(got.lives) != k+m || len(got.boots) != k+m {
							t.Fatalf("of %+v %+v is told of %d", x.Pool, got, pg)
						}
					}
				}
			}
		}
	}
}

// Pl1: what is to keep a placement group hangs on its number, and not on how many there
// are, nor on how places fall to data and parity.
func TestGroupsDoNotHangOnPgs(t *testing.T) {
	for pg := range 32 {
		want := check(t, town(2, 2, 32, 1), pg)
		for _, m := range []api.Map{town(2, 2, pg+1, 1), town(1, 3, 32, 1), town(3, 1, pg+1, 1)} {
			if got := check(t, m, pg); !got.same(want) {
				t.Fatalf("of %d %+v is told, and with %+v %+v", pg, want, m.Pool, got)
			}
		}
	}
	seen := map[[4]int]int{}
	for pg := range 32 {
		seen[[4]int(check(t, wide(2, 2, 32, 64), pg).up)]++
	}
	if len(seen) != 32 {
		t.Errorf("32 placement groups are kept by %d unlike lists", len(seen))
	}
}

// Pl1, R1, R2: placement groups at the edges: 0 and Pgs - 1 there are, -1 and Pgs not.
func TestWrongGroups(t *testing.T) {
	for _, pgs := range []int{1, 2, 5, 31, 32} {
		for _, m := range []api.Map{town(2, 1, pgs, 0), odd(4, 3, pgs, 2), wide(31, 1, pgs, 64), of(1, 1, pgs, 1)} {
			check(t, m, 0)
			check(t, m, pgs-1)
			for _, pg := range wrongPgs(pgs) {
				refuses(t, "a placement group that there is not", m, pg)
			}
		}
	}
}

// Pl1: without OSDs, and where none of them has weight, everybody is missing.
func TestNobodyToKeep(t *testing.T) {
	light, out := town(3, 2, 4, 1), town(3, 2, 4, 1)
	for i := range light.Osds {
		light.Osds[i].Weight = 0
		out.Osds[i].In = false
	}
	for _, m := range []api.Map{of(3, 2, 4, 1), light, out} {
		for pg := range 4 {
			got := check(t, m, pg)
			holes, none := slices.Repeat([]int{-1}, 5), make([]int, 5)
			want := told{up: holes, acting: holes, lives: none, boots: none, primary: -1}
			if !got.same(want) {
				t.Errorf("of %d %+v is told", pg, got)
			}
		}
	}
}

// Pl1: fewer OSDs with weight than places leave Holes, also where all are Up: nothing is
// whole.
func TestTooFewToKeep(t *testing.T) {
	for _, many := range []int{1, 2, 3, 5, 6} {
		for pg := range 32 {
			got := check(t, wide(4, 3, 32, many), pg)
			filled := slices.DeleteFunc(slices.Clone(got.up), func(id int) bool { return id == -1 })
			if len(got.up) != 7 || len(filled) == 0 || len(filled) > many || got.whole || got.primary != filled[0] {
				t.Fatalf("of %d OSDs %+v is told of %d", many, got, pg)
			}
			if !slices.Equal(got.acting, got.up) {
				t.Fatalf("%v are to keep %d, and, all Up, %v do", got.up, pg, got.acting)
			}
		}
	}
}

// Pl1: with nobody Up nobody keeps anything, though the map has lives and boots.
func TestNobodyUp(t *testing.T) {
	for domain := range api.Domains {
		for _, m := range []api.Map{town(2, 1, 32, domain), odd(3, 1, 32, domain), wide(9, 3, 32, 64)} {
			for pg := range 32 {
				got := check(t, allUp(m, false), pg)
				if !slices.Equal(got.up, check(t, m, pg).up) {
					t.Fatalf("who is Up turns who is to keep %d", pg)
				}
				wrong := func(n int) bool { return n != 0 }
				if slices.ContainsFunc(got.acting, func(id int) bool { return id != -1 }) || slices.ContainsFunc(got.lives, wrong) || slices.ContainsFunc(got.boots, wrong) {
					t.Fatalf("with nobody Up %+v is told of %d", got, pg)
				}
				if got.primary != -1 || got.whole {
					t.Fatalf("with nobody Up %+v is told of %d", got, pg)
				}
			}
		}
	}
}

// Pl1: the primary is the first that is Up, and not who has the least Id, as one behind
// the other goes down.
func TestPrimaries(t *testing.T) {
	notLeast := 0
	for pg := range 32 {
		m := wide(4, 2, 32, 24)
		up := check(t, m, pg).up
		for i, id := range up {
			if got := place.Primary(m, pg); got != id {
				t.Fatalf("%v are to keep %d, and with the first %d down %d is its primary", up, pg, i, got)
			}
			if id != slices.Min(up[i:]) {
				notLeast++
			}
			m = down(m, id)
			check(t, m, pg)
		}
		if got := place.Primary(m, pg); got != -1 {
			t.Fatalf("with all of %v down %d is the primary of %d", up, got, pg)
		}
		last := len(up) - 1
		if got := place.Primary(down(wide(4, 2, 32, 24), up[:last]...), pg); got != up[last] {
			t.Fatalf("%v are to keep %d, and with all but the last down %d is its primary", up, pg, got)
		}
	}
	if notLeast < 50 {
		t.Errorf("%d primaries are not of the least Id: too little was tested", notLeast)
	}
}

// Pl1: all Up it is whole; with any one of them down it is not, and with others down it
// is.
func TestWhole(t *testing.T) {
	for pg := range 32 {
		m := wide(3, 2, 32, 40)
		got := check(t, m, pg)
		if !got.whole || slices.Contains(got.up, -1) {
			t.Fatalf("of %d %+v is told, though all are Up", pg, got)
		}
		for id := range 40 {
			if want := !slices.Contains(got.up, id); place.Whole(down(m, id), pg) != want {
				t.Fatalf("%v are to keep %d: with %d down it is whole, or not: want %t", got.up, pg, id, want)
			}
		}
	}
}

// Pl1: an OSD 0 keeps placement groups as others do, and is one's primary.
func TestOsdZero(t *testing.T) {
	m := of(1, 1, 1, 0, api.Osd{Id: 0, Up: true, In: true, Weight: 1, Life: 1, Boot: 1})
	want := told{up: []int{0, -1}, acting: []int{0, -1}, lives: []int{1, 0}, boots: []int{1, 0}, primary: 0}
	if got := check(t, m, 0); !got.same(want) {
		t.Errorf("of OSD 0 alone %+v is told", got)
	}
}
