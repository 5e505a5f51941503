package paxos_test

import (
	"math"
	"slices"
	"testing"

	"mooring/api"
	"mooring/paxos"
)

// edges is numbers of all kinds.
var edges = []int{0, 1, -1, 2, 6, 7, 8, math.MaxInt32, math.MinInt32, math.MaxInt, math.MaxInt - 1, math.MinInt, math.MinInt + 1}

// The chapter's example.
func TestExample(t *testing.T) {
	for id := range 3 {
		w := newWorld(t, 3)
		w.propose(id, "a")
		w.rounds(3, 0, 1, 2)
		for other := range 3 {
			w.knows(other, "a")
		}
		w.rests(0, 1, 2)
	}
}

// Pa1: which monitors may be.
func TestNew(t *testing.T) {
	for _, n := range append([]int{3, 4, 5, 6}, edges...) {
		for _, id := range append([]int{n - 1, n, n + 1, 3, 4, 5}, edges...) {
			x, e := paxos.New(id, n)
			if n >= 1 && n <= 7 && id >= 0 && id < n {
				if x == nil || e != api.OK {
					t.Fatalf("New(%d, %d): %v and error %d", id, n, x, e)
				}
				knowsNothing(t, x)
			} else if x != nil || e != api.ErrArg {
				t.Errorf("New(%d, %d): %v and error %d", id, n, x, e)
			}
		}
	}
}

// knowsNothing looks whether a Node knows nothing, and nothing waits with it.
func knowsNothing(t *testing.T, x *paxos.Node) {
	t.Helper()
	if x.Len() != 0 || x.Pending() != 0 {
		t.Errorf("it knows %d, and %d wait", x.Len(), x.Pending())
	}
	for _, i := range edges {
		if v, ok := x.Get(i); len(v) != 0 || ok {
			t.Errorf("Get(%d): %q and %v", i, v, ok)
		}
	}
}

// Pa1: values of all lengths, to the longest one and beyond; what is refused does not
// wait.
func TestProposeLengths(t *testing.T) {
	x := newNode(t, 0, 1)
	want := 0
	for _, length := range []int{0, 1, 100, api.MaxValue - 1, api.MaxValue, api.MaxValue + 1, 2 * api.MaxValue, 1 << 20} {
		e := x.Propose(make([]byte, length))
		if length > 4096 {
			if e != api.ErrLong {
				t.Errorf("%d bytes: error %d", length, e)
			}
		} else if want++; e != api.OK {
			t.Errorf("%d bytes: error %d", length, e)
		}
		if got := x.Pending(); got != want {
			t.Errorf("behind %d bytes %d wait, and not %d", length, got, want)
		}
	}
	if e := x.Propose(nil); e != api.OK {
		t.Errorf("nil: error %d", e)
	}
	x.Tick()
	for i, length := range []int{0, 1, 100, api.MaxValue - 1, api.MaxValue, 0} {
		if v, ok := x.Get(i + 1); len(v) != length || !ok {
			t.Errorf("Get(%d): %d bytes and %v, and not %d", i+1, len(v), ok, length)
		}
	}
}

// Pa1, R2: as many wait as may, and one more is refused, and turns nothing; one that
// is too long is too long first.
func TestProposeUntilFull(t *testing.T) {
	for _, size := range []int{1, 3} {
		w := newWorld(t, size)
		w.unlike = true
		x := w.nodes[0]
		for i := range api.MaxPending {
			w.propose(0, name(i))
			if got := x.Pending(); got != i+1 {
				t.Fatalf("%d wait, and not %d", got, i+1)
			}
		}
		long := make([]byte, api.MaxValue+1)
		for range 3 {
			if e := x.Propose([]byte("more")); e != api.ErrFull {
				t.Fatalf("one more: error %d", e)
			}
			if e := x.Propose(nil); e != api.ErrFull {
				t.Fatalf("no bytes more: error %d", e)
			}
			if e := x.Propose(long); e != api.ErrLong {
				t.Fatalf("one more that is too long: error %d", e)
			}
			if got := x.Pending(); got != 256 {
				t.Fatalf("%d wait", got)
			}
		}
		w.rounds(5, w.all()...)
		w.rests(w.all()...)
		var want []string
		for i := range api.MaxPending {
			want = append(want, name(i))
		}
		w.knows(0, want...)
		w.propose(0, "room again")
		w.crash(0)
		for i := range api.MaxPending {
			w.propose(0, name(1000+i))
		}
		if e := x.Propose([]byte("more")); e != api.ErrFull {
			t.Fatalf("one more behind a crash: error %d", e)
		}
	}
}

// Pa1: each decree is the i-th, from 1 on; there are no others.
func TestGet(t *testing.T) {
	w := newWorld(t, 3)
	for i := range 70 {
		w.propose(1, name(i))
		if i%10 == 9 {
			w.rounds(2, 0, 1, 2)
		}
	}
	for id, x := range w.nodes {
		if x.Len() != 70 {
			t.Fatalf("%d knows %d", id, x.Len())
		}
		for i := range 70 {
			if v, ok := x.Get(i + 1); string(v) != name(i) || !ok {
				t.Fatalf("%d: Get(%d): %q and %v", id, i+1, v, ok)
			}
		}
		for _, i := range []int{0, -1, -70, 71, 72, math.MaxInt, math.MinInt} {
			if v, ok := x.Get(i); len(v) != 0 || ok {
				t.Errorf("%d: Get(%d): %q and %v", id, i, v, ok)
			}
		}
	}
}

// Pa1, Pa2: a monitor alone decides at its Tick, and sends nothing.
func TestAlone(t *testing.T) {
	w := newWorld(t, 1)
	w.unlike = true
	x := w.nodes[0]
	for i := range 30 {
		w.propose(0, name(3*i))
		w.propose(0, name(3*i+1))
		if got := x.Len(); got != 2*i {
			t.Fatalf("%d decrees ahead of a Tick", got)
		}
		if l := x.Tick(); len(l) != 0 {
			t.Fatalf("it sends %d messages", len(l))
		}
		w.look(0)
		if x.Len() != 2*i+2 || x.Pending() != 0 {
			t.Fatalf("%d decrees, %d wait", x.Len(), x.Pending())
		}
		if i%3 == 0 {
			w.propose(0, name(3*i+2))
			w.crash(0)
			if x.Len() != 2*i+2 {
				t.Fatalf("%d decrees behind a crash", x.Len())
			}
		}
	}
	for _, from := range edges {
		if l, e := x.Receive(from, nil); len(l) != 0 || e != api.ErrArg {
			t.Errorf("Receive from %d: %v and error %d", from, l, e)
		}
	}
}

// Pa1: a crash loses what waits, and nothing that is known; however often.
func TestCrash(t *testing.T) {
	w := newWorld(t, 3)
	w.propose(0, "a")
	w.propose(1, "b")
	w.rounds(5, 0, 1, 2)
	want := w.decrees(0)
	for id := range 3 {
		w.propose(id, "c")
		w.propose(id, "d")
		w.crash(id)
		w.crash(id)
		w.knows(id, want...)
	}
	w.rounds(20, 0, 1, 2)
	w.rests(0, 1, 2)
	w.knows(0, want...)
	x := newNode(t, 2, 3)
	x.Crash()
	knowsNothing(t, x)
}

// R1: a Node that New did not give refuses all, and knows nothing.
func TestNoNode(t *testing.T) {
	w := newWorld(t, 3)
	w.propose(1, "a")
	w.tick(1)
	for what, x := range map[string]*paxos.Node{"nil": nil, "zero": {}} {
		for range 2 {
			for _, v := range [][]byte{nil, {}, []byte("a"), make([]byte, api.MaxValue+1)} {
				if e := x.Propose(v); e != api.ErrArg {
					t.Errorf("%s: Propose of %d bytes: error %d", what, len(v), e)
				}
			}
			if l := x.Tick(); len(l) != 0 {
				t.Errorf("%s: Tick sends %v", what, l)
			}
			for _, from := range edges {
				for _, b := range [][]byte{nil, {1}, []byte(w.way[0].data)} {
					if l, e := x.Receive(from, b); len(l) != 0 || e != api.ErrArg {
						t.Errorf("%s: Receive: %v and error %d", what, l, e)
					}
				}
			}
			x.Crash()
			knowsNothing(t, x)
		}
	}
}

// R4: Nodes have nothing to do with one another but by what is delivered.
func TestNodesAreApart(t *testing.T) {
	one, two := newWorld(t, 3), newWorld(t, 3)
	one.propose(0, "a")
	one.rounds(5, 0, 1, 2)
	for id := range 3 {
		knowsNothing(t, two.nodes[id])
	}
	two.propose(1, "b")
	two.rounds(5, 0, 1, 2)
	one.knows(1, "a")
	two.knows(0, "b")
}

// Pa1: asking turns nothing, however often.
func TestAskingTurnsNothing(t *testing.T) {
	run := func(ask bool) []parcel {
		n := numbers(31)
		w := newWorld(t, 3)
		for i := range 300 {
			w.step(n.below, common, name(i))
			for _, x := range w.nodes {
				for k := -1; ask && k < 9; k++ {
					x.Get(k)
					x.Len()
					x.Pending()
				}
			}
		}
		return w.sent
	}
	if !slices.Equal(run(false), run(true)) {
		t.Error("Get, Len or Pending turn something")
	}
}

func BenchmarkDecree(b *testing.B) {
	w := newWorld(b, 3)
	v := make([]byte, 100)
	for b.Loop() {
		w.nodes[0].Propose(v)
		swiftRounds(b, w.nodes, 1)
	}
}

func BenchmarkRoundAtRest(b *testing.B) {
	w := newWorld(b, 7)
	for b.Loop() {
		swiftRounds(b, w.nodes, 1)
	}
}
