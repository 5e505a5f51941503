package flight_test

import (
	"math"
	"slices"
	"strings"
	"testing"

	"mooring/flight"
)

// The greatest and the least numbers, and those beside them.
var edges = []int{0, 1, -1, 2, 7, math.MaxInt32, math.MinInt32, math.MaxInt, math.MaxInt - 1, math.MinInt, math.MinInt + 1}

// The chapter's example.
func TestExample(t *testing.T) {
	f := newFlight(t)
	a, b := letter{1, 2, "a"}, letter{3, 4, "b"}
	post(t, f, a, b)
	delivers(t, f, 1, b)
	if !f.Twice(0) {
		t.Fatal("Twice(0): none")
	}
	delivers(t, f, 0, a)
	delivers(t, f, 0, a)
	holds(t, f)
}

// Fl1: nothing is on its way at first, and nobody is parted; each New is another.
func TestNew(t *testing.T) {
	for range 2 {
		f := newFlight(t)
		holds(t, f)
		for _, a := range edges {
			for _, b := range edges {
				parts(t, f, a, b, false)
			}
			if n := f.Clear(a); n != 0 {
				t.Errorf("Clear(%d): %d", a, n)
			}
		}
		post(t, f, crowd(3)...)
		f.Part(1, 2)
	}
}

// R4: Flights have nothing to do with one another.
func TestFlightsAreApart(t *testing.T) {
	one, two := newFlight(t), newFlight(t)
	post(t, one, crowd(3)...)
	one.Part(1, 2)
	holds(t, two)
	parts(t, two, 1, 2, false)
	two.Part(3, 4)
	post(t, two, letter{9, 9, "x"})
	one.Heal()
	one.Clear(0)
	holds(t, one, crowd(3)[1:]...)
	holds(t, two, letter{9, 9, "x"})
	parts(t, two, 3, 4, true)
}

// Fl1: messages are on their way in the order in which they were posted: of any
// nodes, of one node to itself, of all lengths, and alike ones.
func TestPost(t *testing.T) {
	f := newFlight(t)
	var all []letter
	for _, x := range []letter{
		{1, 2, "a"}, {2, 1, "a"}, {1, 2, "a"}, {1, 2, ""}, {1, 2, ""}, {5, 5, "self"}, {0, 0, ""}, {0, 0, "\x00"},
		{math.MaxInt, math.MinInt, "far"}, {math.MinInt, math.MinInt, "\xFF\xFE"}, {-1, -2, strings.Repeat("long", 50000)},
	} {
		post(t, f, x)
		all = append(all, x)
		holds(t, f, all...)
	}
}

// Fl1: no bytes are a message, too: nil, and the empty list.
func TestPostOfNoBytes(t *testing.T) {
	f := newFlight(t)
	for _, b := range [][]byte{nil, {}, []byte("behind")[:0]} {
		if !f.Post(1, 2, b) {
			t.Fatal("no room")
		}
	}
	none := letter{1, 2, ""}
	holds(t, f, none, none, none)
	for range 3 {
		delivers(t, f, 0, none)
	}
	holds(t, f)
}

// Fl1: all numbers are nodes.
func TestAllNumbersAreNodes(t *testing.T) {
	f := newFlight(t)
	var all []letter
	for _, from := range edges {
		for _, to := range edges {
			all = append(all, letter{from, to, "x"})
		}
	}
	post(t, f, all...)
	holds(t, f, all...)
	for len(all) > 0 {
		i := len(all) / 2
		delivers(t, f, i, all[i])
		all = slices.Delete(all, i, i+1)
	}
	holds(t, f)
}

// Fl1, Fl2: MaxFlight may be on their way, and one more may not, whether it is
// posted or doubled; nothing has changed then.
func TestFull(t *testing.T) {
	f := newFlight(t)
	all := crowd(most)
	post(t, f, all[:most-2]...)
	if !f.Twice(most - 3) {
		t.Fatal("Twice: no room")
	}
	all[most-2] = all[most-3]
	holds(t, f, all[:most-1]...)
	post(t, f, all[most-1])
	full := func() {
		t.Helper()
		if f.Post(1, 2, []byte("more")) || f.Post(0, 0, nil) {
			t.Fatal("Post of one more: true")
		}
		for _, i := range []int{0, most / 2, most - 1, most, -1} {
			if f.Twice(i) {
				t.Fatalf("Twice(%d) of one more: true", i)
			}
		}
		holds(t, f, all...)
	}
	full()
	looksNone(t, f, most)

	// Whatever takes one out makes room for one, and no more.
	delivers(t, f, 0, all[0])
	if !f.Twice(0) {
		t.Fatal("there is room behind Deliver")
	}
	all = append(all[1:], all[1])
	full()
	if !f.Drop(most - 1) {
		t.Fatal("Drop: none")
	}
	all = append(all[:most-1], letter{8, 9, "last"})
	post(t, f, all[most-1])
	full()
	f.Part(8, 9)
	deliversNone(t, f, most-1)
	all[most-1] = letter{6, 6, "again"}
	post(t, f, all[most-1])
	full()

	// And so does Clear.
	var left []letter
	for _, x := range all {
		if x.to != 3 {
			left = append(left, x)
		}
	}
	if n := f.Clear(3); n != most-len(left) || n == 0 {
		t.Fatalf("Clear: %d, and not %d", n, most-len(left))
	}
	all = append(left, crowd(most-len(left))...)
	post(t, f, all[len(left):]...)
	full()
}

// Fl1, Fl2: the first place, the last, those beside them, and wrong ones: at Look,
// Deliver, Drop and Twice.
func TestPlaces(t *testing.T) {
	for _, n := range []int{0, 1, 2, 5} {
		all := crowd(n)
		places := append([]int{-2, -1, 0, 1, n / 2, n - 1, n, n + 1, most - 1, most}, edges...)
		for _, i := range places {
			there := i >= 0 && i < n
			f := newFlight(t)
			post(t, f, all...)
			if !there {
				looksNone(t, f, i)
				deliversNone(t, f, i)
				if f.Drop(i) || f.Twice(i) {
					t.Fatalf("of %d: there is one at %d", n, i)
				}
				holds(t, f, all...)
				continue
			}
			if !f.Twice(i) {
				t.Fatalf("of %d: Twice(%d): none", n, i)
			}
			twice := append(slices.Clone(all), all[i])
			holds(t, f, twice...)
			if !f.Drop(i) {
				t.Fatalf("of %d: Drop(%d): none", n, i)
			}
			holds(t, f, slices.Delete(twice, i, i+1)...)

			g := newFlight(t)
			post(t, g, all...)
			delivers(t, g, i, all[i])
			holds(t, g, slices.Delete(slices.Clone(all), i, i+1)...)
		}
	}
}

// Fl1: looking turns nothing, however often.
func TestLookTurnsNothing(t *testing.T) {
	f := newFlight(t)
	all := crowd(4)
	post(t, f, all...)
	for range 3 {
		holds(t, f, all...)
	}
}

// Fl2: a doubled one stands behind all, and is one of its own: delivered, dropped,
// cleared and doubled apart from the first.
func TestTwice(t *testing.T) {
	a, b, c := letter{1, 2, "a"}, letter{1, 3, "b"}, letter{2, 2, ""}
	fresh := func() *flight.Flight {
		f := newFlight(t)
		post(t, f, a, b, c)
		if !f.Twice(0) {
			t.Fatal("Twice(0): none")
		}
		holds(t, f, a, b, c, a)
		return f
	}
	f := fresh()
	delivers(t, f, 3, a)
	holds(t, f, a, b, c)
	f = fresh()
	delivers(t, f, 0, a)
	holds(t, f, b, c, a)
	delivers(t, f, 2, a)
	holds(t, f, b, c)

	f = fresh()
	if !f.Drop(0) || !f.Drop(2) || f.Drop(2) {
		t.Fatal("Drop of a doubled one")
	}
	holds(t, f, b, c)
	f = fresh()
	if n := f.Clear(2); n != 3 {
		t.Fatalf("Clear: %d", n)
	}
	holds(t, f, b)

	f = fresh()
	if !f.Twice(3) || !f.Twice(2) || !f.Twice(0) {
		t.Fatal("Twice of a doubled one: none")
	}
	holds(t, f, a, b, c, a, a, c, a)
	post(t, f, b)
	holds(t, f, a, b, c, a, a, c, a, b)
}

// Fl2: nodes that were parted are, in both directions, and no others; twice is as
// once, and one Heal ends all.
func TestPart(t *testing.T) {
	f := newFlight(t)
	f.Part(1, 2)
	parts(t, f, 1, 2, true)
	for _, p := range [][2]int{{1, 1}, {2, 2}, {1, 3}, {2, 3}, {0, 0}, {0, 1}, {0, 2}, {-1, -2}, {-1, 2}, {12, 0}} {
		parts(t, f, p[0], p[1], false)
	}
	f.Part(1, 2)
	f.Part(2, 1)
	f.Part(3, 2)
	f.Part(-1, 0)
	for _, p := range [][2]int{{1, 2}, {2, 3}, {0, -1}} {
		parts(t, f, p[0], p[1], true)
	}
	// Parted is no chain: 1 from 2 and 2 from 3 does not part 1 from 3.
	parts(t, f, 1, 3, false)
	f.Heal()
	for _, p := range [][2]int{{1, 2}, {2, 3}, {0, -1}, {1, 3}} {
		parts(t, f, p[0], p[1], false)
	}
	f.Heal()
	f.Part(2, 1)
	parts(t, f, 1, 2, true)
	parts(t, f, 2, 3, false)
}

// Fl2: each pair of all numbers, the least and the greatest too.
func TestPartOfAllNumbers(t *testing.T) {
	for _, a := range edges {
		for _, b := range edges {
			f := newFlight(t)
			f.Part(a, b)
			for _, x := range edges {
				for _, y := range edges {
					want := a != b && (x == a && y == b || x == b && y == a)
					if f.Parted(x, y) != want {
						t.Fatalf("behind Part(%d, %d): Parted(%d, %d) is %v", a, b, x, y, !want)
					}
				}
			}
		}
	}
}

// Fl2: nobody is parted from itself: what it posts to itself comes.
func TestPartFromItself(t *testing.T) {
	f := newFlight(t)
	for _, a := range edges {
		f.Part(a, a)
		parts(t, f, a, a, false)
		self := letter{a, a, "self"}
		post(t, f, self)
		delivers(t, f, 0, self)
	}
	f.Part(1, 2)
	f.Part(1, 1)
	parts(t, f, 1, 2, true)
	post(t, f, letter{1, 1, "self"}, letter{2, 2, ""})
	delivers(t, f, 1, letter{2, 2, ""})
	delivers(t, f, 0, letter{1, 1, "self"})
}

// Fl2: between parted nodes a message is posted, looked at, doubled, dropped and
// cleared as another one is; delivered, it is lost.
func TestParted(t *testing.T) {
	there, back, other := letter{1, 2, "there"}, letter{2, 1, "back"}, letter{1, 3, "other"}
	f := newFlight(t)
	post(t, f, there)
	f.Part(2, 1)
	post(t, f, back, other, there)
	holds(t, f, there, back, other, there)
	if !f.Twice(1) {
		t.Fatal("Twice: none")
	}
	holds(t, f, there, back, other, there, back)
	deliversNone(t, f, 0)
	holds(t, f, back, other, there, back)
	deliversNone(t, f, 0)
	holds(t, f, other, there, back)
	delivers(t, f, 0, other)
	if !f.Drop(0) || f.Len() != 1 {
		t.Fatal("Drop between parted nodes")
	}
	post(t, f, back, there)
	if n := f.Clear(1); n != 2 {
		t.Fatalf("Clear: %d", n)
	}
	holds(t, f, there)
	parts(t, f, 1, 2, true)
}

// Fl2: behind a Heal what is still on its way is delivered; what was lost is not.
func TestHeal(t *testing.T) {
	a, b := letter{1, 2, "a"}, letter{2, 1, "b"}
	f := newFlight(t)
	f.Part(1, 2)
	post(t, f, a, b, a)
	deliversNone(t, f, 0)
	f.Heal()
	holds(t, f, b, a)
	delivers(t, f, 1, a)
	delivers(t, f, 0, b)
	deliversNone(t, f, 0)
	// Parted and healed between: all comes.
	post(t, f, a, b)
	f.Part(1, 2)
	f.Part(2, 1)
	f.Heal()
	delivers(t, f, 0, a)
	delivers(t, f, 0, b)
}

// Fl2: none at a place tells false, and zero, though nodes are parted: nothing is
// lost for it.
func TestDeliverOfNoneWhileParted(t *testing.T) {
	f := newFlight(t)
	f.Part(0, 1)
	f.Part(0, 0)
	x := letter{0, 1, "x"}
	post(t, f, x)
	for _, i := range []int{-1, 1, math.MaxInt, math.MinInt} {
		deliversNone(t, f, i)
		holds(t, f, x)
	}
}

// Fl2: Clear of a node that nothing, something and everything goes to; what comes
// from it stays, and the order of the others.
func TestClear(t *testing.T) {
	a, b, c, d := letter{1, 2, "a"}, letter{2, 3, "b"}, letter{3, 2, "c"}, letter{2, 2, "d"}
	f := newFlight(t)
	if n := f.Clear(2); n != 0 {
		t.Fatalf("Clear of nothing: %d", n)
	}
	post(t, f, a, b, c, d, b)
	for _, node := range []int{1, 0, -2, 4, math.MaxInt, math.MinInt} {
		if n := f.Clear(node); n != 0 {
			t.Fatalf("Clear(%d): %d", node, n)
		}
	}
	holds(t, f, a, b, c, d, b)
	if n := f.Clear(2); n != 3 {
		t.Fatalf("Clear(2): %d", n)
	}
	holds(t, f, b, b)
	if n := f.Clear(2); n != 0 {
		t.Fatalf("Clear(2) again: %d", n)
	}
	if n := f.Clear(3); n != 2 {
		t.Fatalf("Clear(3): %d", n)
	}
	holds(t, f)
	post(t, f, a, b)
	holds(t, f, a, b)
	for _, node := range edges {
		g := newFlight(t)
		for _, to := range edges {
			post(t, g, letter{node, to, "x"})
		}
		if n := g.Clear(node); n != 1 || g.Len() != len(edges)-1 {
			t.Fatalf("Clear(%d): %d, and %d are left", node, n, g.Len())
		}
	}
}

// Fl2: Clear parts and heals nobody, and Heal loses nothing.
func TestClearAndHealAreApart(t *testing.T) {
	f := newFlight(t)
	f.Part(1, 2)
	post(t, f, letter{1, 2, "a"}, letter{2, 3, "b"})
	f.Clear(2)
	parts(t, f, 1, 2, true)
	f.Heal()
	holds(t, f, letter{2, 3, "b"})
}

// R1, and the chapter's last words: a Flight that New did not give tells false,
// zero and nothing, and stays so.
func TestNoFlight(t *testing.T) {
	for what, f := range map[string]*flight.Flight{"nil": nil, "zero": {}, "new": new(flight.Flight)} {
		for range 2 {
			if f.Post(1, 2, []byte("a")) || f.Post(0, 0, nil) {
				t.Errorf("%s: Post: true", what)
			}
			f.Part(1, 2)
			f.Part(0, 0)
			for _, i := range append([]int{most}, edges...) {
				looksNone(t, f, i)
				deliversNone(t, f, i)
				if f.Drop(i) || f.Twice(i) || f.Clear(i) != 0 || f.Len() != 0 {
					t.Errorf("%s: there is something at %d", what, i)
				}
				f.Part(i, 2)
				parts(t, f, i, 2, false)
			}
			f.Heal()
			parts(t, f, 1, 2, false)
		}
	}
}

func BenchmarkPostAndDeliverTheFirst(b *testing.B) {
	f := newFlight(b)
	post(b, f, crowd(most-1)...)
	data := make([]byte, 100)
	for b.Loop() {
		f.Post(1, 2, data)
		f.Deliver(0)
	}
}

func BenchmarkLook(b *testing.B) {
	f := newFlight(b)
	f.Post(1, 2, make([]byte, 100))
	for b.Loop() {
		f.Look(0)
	}
}

func BenchmarkFillAndClear(b *testing.B) {
	f := newFlight(b)
	data := make([]byte, 100)
	for b.Loop() {
		for f.Post(1, 2, data) {
		}
		f.Clear(2)
	}
}
