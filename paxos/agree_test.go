package paxos_test

import (
	"slices"
	"strconv"
	"testing"

	"mooring/api"
)

// sizes is how many monitors there are in runs.
var sizes = []int{1, 2, 3, 4, 5, 6, 7}

// kinds is runs of several habits: most comes; much is lost; much comes late and
// twice; many crash; all tick often, and come into each other's way.
func kinds() []habits {
	return []habits{
		common,
		{propose: 1, tick: 6, first: 50, any: 10, drop: 14, twice: 1, late: 1, crash: 0},
		{propose: 1, tick: 3, first: 10, any: 40, drop: 1, twice: 5, late: 6, crash: 1},
		{propose: 3, tick: 6, first: 50, any: 6, drop: 1, twice: 1, late: 1, crash: 4},
		{propose: 2, tick: 10, first: 50, any: 10, drop: 2, twice: 1, late: 1, crash: 1},
		{propose: 1, tick: 3, first: 50, any: 2, drop: 0, twice: 0, late: 0, crash: 2},
	}
}

// Pa1, Pa2, Pa3: monitors propose, tick, receive and crash in many orders, with
// messages lost, doubled, late and out of order: behind every step what one knows is
// the beginning of what others know, was proposed, and is known for ever; and just
// those wait that are not known to be decrees.
func TestManyRuns(t *testing.T) {
	t.Parallel()
	n := numbers(12)
	for _, size := range sizes {
		for k, h := range kinds() {
			decrees := 0
			for range 30 {
				w := newWorld(t, size)
				w.unlike = true
				for i := range 250 * size {
					w.step(n.below, h, name(i))
				}
				for id := range w.nodes {
					w.look(id)
				}
				decrees += len(w.longest)
			}
			if decrees < 60 {
				t.Errorf("of %d monitors runs of kind %d had %d decrees alone", size, k, decrees)
			}
		}
	}
}

// Pa3: so it is with values that are alike, proposed by one and by several: each
// Propose is one decree at most.
func TestManyRunsOfLikeValues(t *testing.T) {
	t.Parallel()
	n := numbers(120)
	for _, size := range sizes {
		for k, h := range kinds() {
			decrees := 0
			for range 15 {
				w := newWorld(t, size)
				for range 250 * size {
					w.step(n.below, h, strconv.Itoa(n.below(2)))
				}
				decrees += len(w.longest)
			}
			if decrees < 20 {
				t.Errorf("of %d monitors runs of kind %d had %d decrees alone", size, k, decrees)
			}
		}
	}
}

// Pa3: a long run, in which each one is cut off and crashes many times.
func TestALongRun(t *testing.T) {
	n := numbers(5)
	w := newWorld(t, 5)
	for i := range 20000 {
		w.step(n.below, common, strconv.Itoa(i%7))
	}
	if len(w.longest) < 100 {
		t.Errorf("%d decrees alone", len(w.longest))
	}
}

// Pa3: nobody knows a decree that too few have accepted: with half of the monitors,
// or fewer, nothing is ever decided.
func TestTooFewDecideNothing(t *testing.T) {
	for _, size := range sizes[1:] {
		w := newWorld(t, size)
		awake := w.all()[:size/2]
		for i := range 30 {
			w.propose(awake[i%len(awake)], name(i))
			w.rounds(3, awake...)
		}
		for id := range w.nodes {
			w.knows(id)
		}
		if got := w.waiting(); got != 30 {
			t.Errorf("of %d: %d wait", size, got)
		}
	}
}

// Pa3: two halves that meet in one alone decide as one: what the one half decided the
// other half knows ahead of all that it decides.
func TestHalvesThatMeet(t *testing.T) {
	for _, size := range []int{3, 5, 7} {
		w := newWorld(t, size)
		most := size/2 + 1
		low, high := w.all()[:most], w.all()[size-most:]
		for i := range 6 {
			w.propose(low[0], name(2*i))
			w.rounds(10, low...)
			w.rests(low...)
			w.propose(high[most-1], name(2*i+1))
			w.rounds(10, high...)
			w.rests(high...)
			if got := w.nodes[high[0]].Len(); got != 2*i+2 {
				t.Fatalf("of %d: %d decrees behind %d", size, got, 2*i+2)
			}
		}
	}
}

// Pa1, Pa3: each one crashes between every message and its answer, all the while:
// nothing is turned that was known, and nothing told twice.
func TestACrashBehindEachMessage(t *testing.T) {
	for _, size := range []int{2, 3, 5, 7} {
		decrees := 0
		for which := range size {
			w := newWorld(t, size)
			w.unlike = true
			for i := range 20 {
				w.propose((which+1)%size, name(2*i))
				w.propose(which, name(2*i+1))
				for id := range size {
					w.tick(id)
				}
				for len(w.way) > 0 {
					p := w.take(0)
					w.give(p)
					if p.to == which {
						w.crash(which)
					}
				}
			}
			decrees += len(w.longest)
		}
		if decrees < 20 {
			t.Errorf("of %d: %d decrees alone", size, decrees)
		}
	}
}

// Pa3: all crash at once, at each place of a run: what was known then is known, and
// what is decided later goes behind it.
func TestAllCrashAtOnce(t *testing.T) {
	run := func(steps int) *world {
		n := numbers(9)
		w := newWorld(t, 3)
		w.unlike = true
		quiet := common
		quiet.crash = 0
		for i := range steps {
			w.step(n.below, quiet, name(i))
		}
		return w
	}
	for steps := range 120 {
		w := run(steps)
		var was [][]string
		for id := range w.nodes {
			w.crash(id)
			was = append(was, w.decrees(id))
		}
		w.propose(steps%3, "behind")
		w.rounds(10, 0, 1, 2)
		w.rests(0, 1, 2)
		for id, l := range was {
			if got := w.decrees(id); !slices.Equal(got[:len(l)], l) || got[len(got)-1] != "behind" {
				t.Fatalf("%d knew %q, and knows %q", id, l, got)
			}
		}
	}
}

// Pa2, Pa3: one that proposed is cut off behind each of its messages, while another
// one asks for a value of its own: at some places that one carries on what it found,
// and the first one does not know it. When it knows it its value waits no more, and is
// one decree.
func TestAnotherOneCarriesOn(t *testing.T) {
	for _, size := range []int{3, 5, 7} {
		carried := 0
		for place := range 6 * size {
			w := newWorld(t, size)
			w.unlike = true
			w.propose(0, "a")
			w.tick(0)
			for i := 0; i < place && len(w.way) > 0; i++ {
				w.give(w.take(0))
			}
			alone := w.decrees(0)
			others := w.all()[1:]
			w.propose(1, "b")
			w.rounds(10, others...)
			w.rests(others...)
			w.knows(0, alone...)
			if got := w.decrees(1); len(alone) == 0 && slices.Equal(got, []string{"a", "b"}) {
				carried++
			} else if len(alone) == 0 {
				w.knows(1, "b")
			}
			if got := w.nodes[0].Pending(); got != 1-len(alone) {
				t.Fatalf("%d wait with the one that was cut off", got)
			}
			w.rounds(10, w.all()...)
			w.rests(w.all()...)
			if got := w.nodes[0].Len(); got != 2 {
				t.Fatalf("%d decrees", got)
			}
		}
		if carried < 3 {
			t.Errorf("of %d: %d values were carried on alone", size, carried)
		}
	}
}

// Pa3: a crash loses what waits, and it is asked for no more by anybody: it is one
// decree, if another one carries it on, or none.
func TestACrashLosesWhatWaits(t *testing.T) {
	w := newWorld(t, 3)
	w.propose(0, "a")
	w.propose(0, "b")
	w.propose(1, "c")
	w.crash(0)
	w.rounds(20, 0, 1, 2)
	w.rests(0, 1, 2)
	w.knows(2, "c")

	for late := range 30 {
		w := newWorld(t, 3)
		w.unlike = true
		w.propose(0, "a")
		w.propose(0, "b")
		w.tick(0)
		for range late {
			if len(w.way) > 0 {
				w.give(w.take(0))
			}
		}
		w.crash(0)
		w.propose(0, "c")
		w.rounds(20, 0, 1, 2)
		w.rests(0, 1, 2)
		got := w.decrees(0)
		if !slices.Equal(got, []string{"c"}) && !slices.Equal(got, []string{"a", "c"}) && !slices.Equal(got, []string{"a", "b", "c"}) {
			t.Fatalf("%d messages came, then a crash: %q", late, got)
		}
	}
}

// Pa3: values that are alike are told apart: each that was asked for is a decree, if
// nobody crashes, and no more.
func TestLikeValues(t *testing.T) {
	for _, size := range sizes {
		w := newWorld(t, size)
		want := 0
		for id := range w.nodes {
			for range 3 {
				w.propose(id, "same")
				want++
			}
			w.propose(id, "")
			want++
		}
		w.rounds(60, w.all()...)
		w.rests(w.all()...)
		if got := w.nodes[0].Len(); got != want {
			t.Errorf("of %d: %d decrees, and not %d", size, got, want)
		}
	}
}

// Pa2: of values that are alike one is less with each decree, and only with the one
// that proposed it.
func TestLikeValuesWaitOneByOne(t *testing.T) {
	w := newWorld(t, 3)
	for range 5 {
		w.propose(1, "x")
	}
	w.tick(1)
	for len(w.way) > 0 {
		w.give(w.take(0))
		if got := w.nodes[1].Pending() + w.nodes[1].Len(); got != 5 {
			t.Fatalf("%d wait, %d are decrees", w.nodes[1].Pending(), w.nodes[1].Len())
		}
	}
	w.propose(0, "x")
	w.rounds(5, 1, 2)
	w.knows(1, "x", "x", "x", "x", "x")
	if got := w.nodes[0].Pending(); got != 1 {
		t.Errorf("with another one, that was asked for the same, %d wait", got)
	}
	w.rounds(5, 0, 1, 2)
	w.rests(0, 1, 2)
	w.knows(1, "x", "x", "x", "x", "x", "x")
}

// Pa2: values of one monitor are decrees in the order in which they were proposed.
func TestTheOldestFirst(t *testing.T) {
	for _, size := range sizes {
		w := newWorld(t, size)
		for i := range 12 {
			w.propose(i%size, name(i))
		}
		w.rounds(60, w.all()...)
		w.rests(w.all()...)
		last := make([]int, size)
		for _, v := range w.decrees(0) {
			i, _ := strconv.Atoi(v[1:])
			if i < last[i%size] {
				t.Fatalf("of %d: %q", size, w.decrees(0))
			}
			last[i%size] = i
		}
	}
}

// Pa1: what a monitor is told late, and all at once: one that missed many decrees, of
// the longest ones, too, comes to know them, by messages that are not too long.
func TestManyDecreesAtOnce(t *testing.T) {
	t.Parallel()
	w := newWorld(t, 3)
	long := make([]byte, api.MaxValue-4)
	for i := range 200 {
		w.propose(i%2, name(1000 + i)[1:]+string(long))
		if i%50 == 49 {
			w.rounds(6, 0, 1)
			w.sent = nil // it would be much
		}
	}
	w.rests(0, 1)
	w.knows(2)
	w.rounds(6, 0, 1, 2)
	w.rests(0, 1, 2)
	if got := w.nodes[2].Len(); got != 200 {
		t.Errorf("%d decrees", got)
	}
}

// R4: the same calls tell the same, also what is sent.
func TestAlwaysTheSame(t *testing.T) {
	for _, size := range sizes {
		run := func() *world {
			n := numbers(77)
			w := newWorld(t, size)
			for i := range 400 {
				w.step(n.below, common, name(i))
			}
			return w
		}
		first := run()
		for range 3 {
			if next := run(); !slices.Equal(next.sent, first.sent) || !slices.Equal(next.longest, first.longest) {
				t.Fatalf("of %d: two runs are unlike", size)
			}
		}
	}
}

// Pa1, Pa2, Pa3: whatever a list of bytes lets be done.
func FuzzAgreement(f *testing.F) {
	f.Add([]byte{2, 0, 0, 1, 0, 1, 2, 3, 4, 5, 6, 7, 8, 9, 10, 11, 12, 13, 14})
	f.Add([]byte{6, 12, 3, 2, 9, 12, 7, 7, 9, 9, 1, 2, 3, 4, 5, 6, 7, 8, 9, 200, 201, 30, 31})
	f.Fuzz(func(t *testing.T, b []byte) {
		if len(b) > 600 {
			return
		}
		next := func(limit int) int {
			if len(b) == 0 {
				return 0
			}
			x := int(b[0]) % limit
			b = b[1:]
			return x
		}
		w := newWorld(t, 1+next(api.MaxMons))
		w.unlike = true
		for i := 0; len(b) > 0; i++ {
			w.step(next, common, name(i))
		}
	})
}
