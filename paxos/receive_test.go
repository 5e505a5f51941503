package paxos_test

import (
	"math"
	"slices"
	"testing"

	"mooring/api"
)

// traffic is messages of all kinds, as they were sent in runs of some monitors.
func traffic(t testing.TB, size int) *world {
	t.Helper()
	n := numbers(size)
	w := newWorld(t, size)
	for i := range 120 * size {
		w.step(n.below, common, name(i))
	}
	w.rounds(5, w.all()...)
	return w
}

// refuses looks whether bytes are refused, and nothing is told beside.
func refuses(t testing.TB, w *world, to, from int, b []byte, want api.Errno) {
	t.Helper()
	if l, e := w.nodes[to].Receive(from, b); len(l) != 0 || e != want {
		t.Fatalf("%d, of %x from %d: %v and error %d, and not %d", to, b, from, l, e, want)
	}
}

// Pa2: whatever was ever sent may come at any time, and is known for what it is: also
// behind crashes, and when all is long decided.
func TestAllThatWasSentIsTaken(t *testing.T) {
	for _, size := range sizes[1:] {
		w := traffic(t, size)
		if len(w.sent) < 100 {
			t.Fatalf("%d messages alone", len(w.sent))
		}
		for _, p := range w.sent[:len(w.sent):len(w.sent)] {
			w.give(p)
		}
		for id := range w.nodes {
			w.crash(id)
		}
		for _, p := range w.sent[:100] {
			w.give(p)
		}
	}
}

// Pa2, R2: from nobody else: from itself, from numbers that are no monitor's; that is
// told first, whatever the bytes are.
func TestFromNoOtherMonitor(t *testing.T) {
	for _, size := range sizes[1:] {
		w := traffic(t, size)
		for _, p := range w.sent[:20] {
			for _, from := range append([]int{p.to, -1, size, size + 1, math.MaxInt, math.MinInt, api.OsdAt, api.ClientAt}, edges...) {
				if from >= 0 && from < size && from != p.to {
					continue
				}
				refuses(t, w, p.to, from, []byte(p.data), api.ErrArg)
				refuses(t, w, p.to, from, []byte(p.data)[1:], api.ErrArg)
				refuses(t, w, p.to, from, nil, api.ErrArg)
			}
		}
	}
}

// Pa2: bytes that nobody sends: messages that are cut off, at both ends, that have
// more behind or ahead, with a byte turned, or that another one sent.
func TestBytesThatNobodySends(t *testing.T) {
	for _, size := range []int{2, 3, 7} {
		w := traffic(t, size)
		n := numbers(100 + size)
		for _, p := range w.sent[:min(len(w.sent), 150)] {
			b := []byte(p.data)
			for cut := range b {
				refuses(t, w, p.to, p.from, b[:cut], api.ErrText)
				refuses(t, w, p.to, p.from, b[cut+1:], api.ErrText)
				turned := slices.Clone(b)
				turned[cut] ^= byte(1 + n.below(255))
				refuses(t, w, p.to, p.from, turned, api.ErrText)
			}
			for _, more := range []byte{0, 1, 0x80, 0xFF} {
				refuses(t, w, p.to, p.from, append(slices.Clone(b), more), api.ErrText)
				refuses(t, w, p.to, p.from, append([]byte{more}, b...), api.ErrText)
			}
			refuses(t, w, p.to, p.from, append(slices.Clone(b), b...), api.ErrText)
			for other := range size {
				if other != p.from && other != p.to {
					refuses(t, w, p.to, other, b, api.ErrText)
				}
			}
		}
	}
}

// Pa2, R1: no bytes, few bytes, and bytes of chance.
func TestBytesOfChance(t *testing.T) {
	n := numbers(3)
	w := traffic(t, 3)
	refuses(t, w, 0, 1, nil, api.ErrText)
	refuses(t, w, 0, 1, []byte{}, api.ErrText)
	for a := range 256 {
		refuses(t, w, 0, 1, []byte{byte(a)}, api.ErrText)
		for b := range 256 {
			refuses(t, w, 2, 0, []byte{byte(a), byte(b)}, api.ErrText)
		}
	}
	for i := range 20000 {
		refuses(t, w, 1, 2, n.bytes(n.below(40)), api.ErrText)
		refuses(t, w, 1, 0, make([]byte, i%50), api.ErrText)
	}
	for range 20 {
		refuses(t, w, 1, 2, n.bytes(n.below(api.MaxBytes)), api.ErrText)
	}
}

// spoil is calls that are all refused, at a monitor at any time.
func spoil(t testing.TB, w *world, n *numbers) {
	t.Helper()
	id := n.below(len(w.nodes))
	x := w.nodes[id]
	if e := x.Propose(make([]byte, api.MaxValue+1+n.below(9))); e != api.ErrLong {
		t.Fatalf("Propose of one that is too long: error %d", e)
	}
	b := n.bytes(n.below(30))
	if len(w.sent) > 0 {
		b = []byte(w.sent[n.below(len(w.sent))].data)
	}
	refuses(t, w, id, id, b, api.ErrArg)
	refuses(t, w, id, len(w.nodes), b, api.ErrArg)
	refuses(t, w, id, -1, b, api.ErrArg)
	if len(w.nodes) > 1 {
		from := (id + 1 + n.below(len(w.nodes)-1)) % len(w.nodes)
		refuses(t, w, id, from, append(b, 1), api.ErrText)
		refuses(t, w, id, from, b[:n.below(len(b)+1)/2], api.ErrText)
	}
}

// Pa2, R2: what is refused turns nothing: a run with calls between that are refused
// tells just what it tells without them, with all that is sent.
func TestRefusedCallsTurnNothing(t *testing.T) {
	for _, size := range sizes {
		run := func(wrong bool) *world {
			n, other := numbers(55), numbers(56)
			w := newWorld(t, size)
			w.unlike = true
			for i := range 300 {
				w.step(n.below, common, name(i))
				if wrong {
					spoil(t, w, &other)
				}
			}
			w.rounds(10, w.all()...)
			w.rests(w.all()...)
			return w
		}
		with, without := run(true), run(false)
		if !slices.Equal(with.sent, without.sent) || !slices.Equal(with.longest, without.longest) {
			t.Fatalf("of %d: calls that are refused turn something", size)
		}
	}
}

// Pa2: what is sent twice, or late, and answered, ends at some time: no two monitors
// answer each other for ever.
func TestAnswersEnd(t *testing.T) {
	for _, size := range []int{2, 3, 5} {
		w := traffic(t, size)
		old := w.sent[:len(w.sent):len(w.sent)]
		for _, p := range old {
			w.way = append(w.way, p, p, p)
		}
		for steps := 0; len(w.way) > 0; steps++ {
			w.give(w.take(0))
			if steps > 20*len(old) {
				t.Fatalf("of %d: %d messages have more than %d answers", size, 3*len(old), steps)
			}
		}
	}
}

// Pa2, R1: any bytes, from any number, at a monitor that knows and waits for something.
func FuzzReceive(f *testing.F) {
	seed := traffic(f, 3)
	for _, p := range seed.sent[:20] {
		f.Add(p.from, []byte(p.data))
	}
	f.Add(-1, []byte{})
	f.Fuzz(func(t *testing.T, from int, b []byte) {
		w := newWorld(t, 3)
		w.propose(0, "a")
		w.rounds(2, 0, 1, 2)
		w.propose(1, "b")
		w.tick(1)
		l, e := w.nodes[1].Receive(from, b)
		if (from < 0 || from > 2 || from == 1) != (e == api.ErrArg) {
			t.Fatalf("from %d: error %d", from, e)
		}
		if e != api.OK && (e != api.ErrArg && e != api.ErrText || len(l) > 0) {
			t.Fatalf("from %d: %v and error %d", from, l, e)
		}
		if e != api.OK {
			w.rounds(10, 0, 1, 2)
			w.rests(0, 1, 2)
			w.knows(2, "a", "b")
		}
	})
}
