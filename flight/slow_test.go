package flight_test

import (
	"testing"

	"mooring/flight"
)

// most is how many messages may be on their way.
const most = 16384

// The things that can be done with a Flight so that it is another one behind them.
const (
	doPost = iota
	doDeliver
	doDrop
	doTwice
	doPart
	doHeal
	doClear
	deeds // how many kinds there are
)

// deed is one of them.
type deed struct {
	kind int
	a, b int // doPost: from and to; doPart: the nodes; doClear: the node; else a: which one
	text string
}

// letter is a message as one tells it.
type letter struct {
	from, to int
	text     string
}

// told is what a deed tells: a message if there was one, whether it was done, and
// how many.
type told struct {
	letter
	ok    bool
	count int
}

// trace is a message that was once on its way, and whether it is no more.
type trace struct {
	letter
	gone bool
}

// slowFlight is all that was ever done with a Flight: what is on its way, and who
// is parted, is looked for anew each time.
type slowFlight struct {
	traces []trace // in the order in which they came
	done   []deed
}

// onTheirWay is the numbers of the traces that are not gone, in their order.
func (s *slowFlight) onTheirWay() []int {
	var out []int
	for n, x := range s.traces {
		if !x.gone {
			out = append(out, n)
		}
	}
	return out
}

// at is the trace of the i-th message; -1: there is none.
func (s *slowFlight) at(i int) int {
	way := s.onTheirWay()
	if i < 0 || i >= len(way) {
		return -1
	}
	return way[i]
}

// parted says whether two nodes were parted since the last Heal.
func (s *slowFlight) parted(a, b int) bool {
	if a == b {
		return false
	}
	for i := len(s.done) - 1; i >= 0 && s.done[i].kind != doHeal; i-- {
		d := s.done[i]
		if d.kind == doPart && (d.a == a && d.b == b || d.a == b && d.b == a) {
			return true
		}
	}
	return false
}

// do is what a deed must tell.
func (s *slowFlight) do(d deed) (out told) {
	switch n := s.at(d.a); d.kind {
	case doPost:
		if out.ok = len(s.onTheirWay()) < most; out.ok {
			s.traces = append(s.traces, trace{letter: letter{d.a, d.b, d.text}})
		}
	case doDeliver:
		if n >= 0 {
			s.traces[n].gone = true
			if x := s.traces[n].letter; !s.parted(x.from, x.to) {
				out = told{letter: x, ok: true}
			}
		}
	case doDrop:
		if out.ok = n >= 0; out.ok {
			s.traces[n].gone = true
		}
	case doTwice:
		if out.ok = n >= 0 && len(s.onTheirWay()) < most; out.ok {
			s.traces = append(s.traces, s.traces[n])
		}
	case doClear:
		for n, x := range s.traces {
			if !x.gone && x.to == d.a {
				s.traces[n].gone = true
				out.count++
			}
		}
	}
	s.done = append(s.done, d)
	return out
}

// do does a deed with a Flight, and tells what the Flight told.
func (d deed) do(f *flight.Flight) (out told) {
	switch d.kind {
	case doPost:
		out.ok = f.Post(d.a, d.b, []byte(d.text))
	case doDeliver:
		var b []byte
		out.from, out.to, b, out.ok = f.Deliver(d.a)
		out.text = string(b)
	case doDrop:
		out.ok = f.Drop(d.a)
	case doTwice:
		out.ok = f.Twice(d.a)
	case doPart:
		f.Part(d.a, d.b)
	case doHeal:
		f.Heal()
	case doClear:
		out.count = f.Clear(d.a)
	}
	return out
}

// both is a Flight, and what was done with it.
type both struct {
	t     testing.TB
	f     *flight.Flight
	slow  slowFlight
	nodes []int // those of which one asks whether they are parted
}

func newBoth(t testing.TB, nodes ...int) *both {
	t.Helper()
	return &both{t: t, f: newFlight(t), nodes: nodes}
}

// do does a deed, and looks at what it told.
func (b *both) do(d deed) told {
	b.t.Helper()
	want := b.slow.do(d)
	got := d.do(b.f)
	if got != want {
		b.t.Fatalf("the last of %v tells %v, and not %v", b.slow.done, got, want)
	}
	return got
}

// look holds all that the Flight tells against what was done.
func (b *both) look() {
	b.t.Helper()
	var want []letter
	for _, n := range b.slow.onTheirWay() {
		want = append(want, b.slow.traces[n].letter)
	}
	holds(b.t, b.f, want...)
	for _, one := range b.nodes {
		for _, other := range b.nodes {
			if got, want := b.f.Parted(one, other), b.slow.parted(one, other); got != want {
				b.t.Fatalf("behind %v: Parted(%d, %d) is %v", b.slow.done, one, other, got)
			}
		}
	}
}

// newFlight is one on which nothing is on its way.
func newFlight(t testing.TB) *flight.Flight {
	t.Helper()
	f := flight.New()
	if f == nil {
		t.Fatal("New tells nil")
	}
	return f
}

// post posts what there is room for.
func post(t testing.TB, f *flight.Flight, l ...letter) {
	t.Helper()
	for _, x := range l {
		if !f.Post(x.from, x.to, []byte(x.text)) {
			t.Fatalf("Post of %v: there is no room", x)
		}
	}
}

// holds looks whether just these are on their way, and none ahead and behind.
func holds(t testing.TB, f *flight.Flight, want ...letter) {
	t.Helper()
	if f.Len() != len(want) {
		t.Fatalf("%d on their way, and not %d", f.Len(), len(want))
	}
	for i, x := range want {
		from, to, b, ok := f.Look(i)
		if got := (letter{from, to, string(b)}); !ok || got != x {
			t.Fatalf("Look(%d): %v and %v, and not %v", i, got, ok, x)
		}
	}
	for _, i := range []int{-1, len(want), len(want) + 1} {
		looksNone(t, f, i)
	}
}

// looksNone looks whether there is none at a place.
func looksNone(t testing.TB, f *flight.Flight, i int) {
	t.Helper()
	if from, to, b, ok := f.Look(i); ok || from != 0 || to != 0 || len(b) != 0 {
		t.Fatalf("Look(%d): %d, %d, %q and %v, and not none", i, from, to, b, ok)
	}
}

// delivers looks whether the i-th is delivered so.
func delivers(t testing.TB, f *flight.Flight, i int, want letter) {
	t.Helper()
	from, to, b, ok := f.Deliver(i)
	if got := (letter{from, to, string(b)}); !ok || got != want {
		t.Fatalf("Deliver(%d): %v and %v, and not %v", i, got, ok, want)
	}
}

// deliversNone looks whether nothing is delivered.
func deliversNone(t testing.TB, f *flight.Flight, i int) {
	t.Helper()
	if from, to, b, ok := f.Deliver(i); ok || from != 0 || to != 0 || len(b) != 0 {
		t.Fatalf("Deliver(%d): %d, %d, %q and %v, and not none", i, from, to, b, ok)
	}
}

// parts looks whether two nodes are parted, or are not, in both directions.
func parts(t testing.TB, f *flight.Flight, a, b int, want bool) {
	t.Helper()
	if f.Parted(a, b) != want || f.Parted(b, a) != want {
		t.Fatalf("Parted(%d, %d) is %v, Parted(%d, %d) is %v, and not %v", a, b, f.Parted(a, b), b, a, f.Parted(b, a), want)
	}
}

// crowd is so many messages, each another one.
func crowd(n int) []letter {
	out := make([]letter, n)
	for i := range out {
		out[i] = letter{i % 5, i % 7, string([]byte{byte(i), byte(i >> 8)})}
	}
	return out
}

// numbers is a stream of numbers that look like chance, and are always the same.
type numbers uint64

func (n *numbers) below(limit int) int {
	*n = *n*6364136223846793005 + 1442695040888963407
	return int(uint64(*n)>>33) % limit
}

// text is bytes of a stream, at most so many.
func (n *numbers) text(longest int) string {
	out := make([]byte, n.below(longest+1))
	for i := range out {
		out[i] = byte(n.below(256))
	}
	return string(out)
}

// deed is one of a stream: of these nodes, at places of which some are there and
// some are not.
func (n *numbers) deed(nodes []int, length int) deed {
	one, other := nodes[n.below(len(nodes))], nodes[n.below(len(nodes))]
	place := n.below(length+3) - 1
	switch n.below(16) {
	case 0, 1, 2, 3, 4, 5:
		return deed{kind: doPost, a: one, b: other, text: n.text(5)}
	case 6, 7, 8:
		return deed{kind: doDeliver, a: place}
	case 9:
		return deed{kind: doDrop, a: place}
	case 10, 11:
		return deed{kind: doTwice, a: place}
	case 12, 13:
		return deed{kind: doPart, a: one, b: other}
	case 14:
		return deed{kind: doHeal}
	}
	return deed{kind: doClear, a: one}
}
