package paxos_test

import (
	"testing"

	"mooring/api"
)

// longEnough is how many rounds Pa4 speaks of, and fewValues how many values may wait.
const (
	longEnough = 400
	fewValues  = 12
)

// chaos is a beginning of any kind: at its end at most so many values wait.
func chaos(w *world, n *numbers, h habits, steps, most int) {
	w.t.Helper()
	for i := range steps {
		now := h
		if w.waiting() >= most {
			now.propose = 0
		}
		w.step(n.below, now, name(i))
	}
}

// drop loses some of what is on its way, or all.
func (w *world) drop(n *numbers) {
	keep := n.below(3)
	var left []parcel
	for _, p := range w.way {
		if keep == 2 || keep == 1 && n.below(2) == 0 {
			left = append(left, p)
		}
	}
	w.way = left
}

// some is so many of the monitors, by rising numbers.
func (w *world) some(n *numbers, count int) []int {
	out := w.all()
	for len(out) > count {
		i := n.below(len(out))
		out = append(out[:i], out[i+1:]...)
	}
	return out
}

// fill lets so many values wait in all, with any of these monitors.
func (w *world) fill(n *numbers, count int, among []int) {
	w.t.Helper()
	for i := w.waiting(); i < count; i++ {
		w.propose(among[n.below(len(among))], name(100000+len(w.asked)))
	}
}

// Pa4: from a beginning of any kind on, with 1 to 12 values that wait: 400 rounds with
// nobody crashed and nothing lost, and all know the same decrees, and nothing waits.
func TestItComesToRest(t *testing.T) {
	t.Parallel()
	n := numbers(400)
	for _, size := range sizes {
		for k, h := range kinds() {
			for i := range 4 {
				w := newWorld(t, size)
				w.unlike = true
				count := 1 + (4*k+i+size)%fewValues
				chaos(w, &n, h, 60*size*i, count)
				w.drop(&n)
				w.fill(&n, count, w.all())
				w.rounds(longEnough, w.all()...)
				w.rests(w.all()...)
				if len(w.longest) < count {
					t.Fatalf("of %d: %d waited, and %d decrees are known", size, count, len(w.longest))
				}
			}
		}
	}
}

// Pa4: so it is for the others, if fewer than half have no Tick and take nothing; and
// for all, when these are back.
func TestItComesToRestWithoutSome(t *testing.T) {
	t.Parallel()
	n := numbers(401)
	for _, size := range sizes[2:] {
		for k, h := range kinds() {
			for i := range 4 {
				w := newWorld(t, size)
				w.unlike = true
				count := 1 + (4*k+i+size)%fewValues
				chaos(w, &n, h, 60*size*i, count)
				w.drop(&n)
				silent := 1 + n.below((size-1)/2)
				awake := w.some(&n, size-silent)
				w.fill(&n, count, awake)
				w.rounds(longEnough, awake...)
				w.rests(awake...)
				w.rounds(longEnough, w.all()...)
				w.rests(w.all()...)
			}
		}
	}
}

// Pa4: values that come to wait while the rounds go on are decrees at their end, too.
func TestValuesComeWhileItRests(t *testing.T) {
	n := numbers(402)
	for _, size := range sizes {
		for range 5 {
			w := newWorld(t, size)
			w.unlike = true
			for i := range fewValues {
				w.propose(n.below(size), name(i))
				w.rounds(n.below(4), w.all()...)
			}
			w.rounds(longEnough, w.all()...)
			w.rests(w.all()...)
			if got := w.nodes[0].Len(); got != fewValues {
				t.Fatalf("of %d: %d decrees", size, got)
			}
		}
	}
}

// Pa4: all values with one monitor, and one with each, of the longest ones.
func TestAllWithOneAndOneWithEach(t *testing.T) {
	t.Parallel()
	for _, size := range sizes {
		for id := range size {
			w := newWorld(t, size)
			for i := range fewValues {
				w.propose(id, name(i))
			}
			w.rounds(longEnough, w.all()...)
			w.rests(w.all()...)
			if got := w.nodes[0].Len(); got != fewValues {
				t.Fatalf("%d of %d: %d decrees", id, size, got)
			}
		}
		w := newWorld(t, size)
		long := make([]byte, api.MaxValue)
		for id := range size {
			long[id] = 1
			w.propose(id, string(long))
		}
		w.rounds(20, w.all()...)
		w.rests(w.all()...)
		if got := w.nodes[0].Len(); got != size {
			t.Fatalf("one with each of %d: %d decrees", size, got)
		}
	}
}

// Pa4: one that was silent for long, and knows nothing, comes to know all, if nobody
// proposes anything; and if only it does.
func TestOneThatWasSilent(t *testing.T) {
	t.Parallel()
	for _, size := range sizes[2:] {
		for _, proposes := range []bool{false, true} {
			for id := range size {
				w := newWorld(t, size)
				w.unlike = true
				others := append(w.all()[:id:id], w.all()[id+1:]...)
				for i := range 40 {
					w.propose(others[i%len(others)], name(i))
					if i%20 == 19 {
						w.rounds(8, others...)
					}
				}
				w.rests(others...)
				w.knows(id)
				want := 40
				if proposes {
					w.propose(id, "mine")
					want++
				}
				w.rounds(20, w.all()...)
				w.rests(w.all()...)
				if got := w.nodes[id].Len(); got != want {
					t.Fatalf("%d of %d: %d decrees, and not %d", id, size, got, want)
				}
			}
		}
	}
}

// Pa4: whoever of the others is awake, as long as they are more than half: one that
// knows nothing, and proposes nothing, comes to know all from any of them.
func TestFromAnyOfTheOthers(t *testing.T) {
	t.Parallel()
	for _, size := range sizes[2:] {
		for set := range 1 << size {
			var awake []int
			for id := range size {
				if set>>id&1 == 1 {
					awake = append(awake, id)
				}
			}
			if 2*len(awake) <= size {
				continue
			}
			w := newWorld(t, size)
			late := awake[set%len(awake)]
			others := append(w.all()[:late:late], w.all()[late+1:]...)
			w.propose(others[0], "a")
			w.propose(others[1], "b")
			w.rounds(10, others...)
			w.knows(late)
			w.rounds(longEnough/10, awake...)
			w.rests(awake...)
			if got := w.nodes[late].Len(); got != 2 {
				t.Fatalf("%d of %v knows %d decrees", late, awake, got)
			}
		}
	}
}

// Pa4: however many decrees there are that one does not know, and however little time
// there is: what is told goes on till all is.
func TestManyDecreesAreToldAtOnce(t *testing.T) {
	for _, many := range []int{63, 64, 65, 127, 128, 129, 1500} {
		w := newWorld(t, 3)
		for i := range many {
			w.nodes[i%2].Propose([]byte(name(i)))
			if i%100 == 99 || i == many-1 {
				swiftRounds(t, w.nodes[:2], 6)
			}
		}
		if got := w.nodes[0].Len(); got != many {
			t.Fatalf("%d decrees, and not %d", got, many)
		}
		swiftRounds(t, w.nodes, 2)
		if got := w.nodes[2].Len(); got != many {
			t.Errorf("of %d decrees one that was silent knows %d", many, got)
		}
		for i := 1; i <= many; i++ {
			one, _ := w.nodes[0].Get(i)
			two, _ := w.nodes[2].Get(i)
			if string(one) != string(two) {
				t.Fatalf("the %d-th is %q and %q", i, one, two)
			}
		}
	}
}

// Pa4: one that missed decrees asks for them as soon as it is told a later one,
// whoever is greeted meanwhile; and it is told them once, not by all.
func TestWhatWasMissedIsToldOnce(t *testing.T) {
	for ticks := range 12 {
		w := newWorld(t, 7)
		for i := range 1000 {
			w.nodes[0].Propose([]byte(name(i)))
			if i%100 == 99 {
				swiftRounds(t, w.nodes[:6], 1+ticks/2)
			}
		}
		w.asked = nil
		for i := range 1002 {
			w.asked = append(w.asked, asked{value: name(i)})
		}
		w.nodes[0].Propose([]byte(name(1000)))
		w.tick(0)
		if ticks%2 == 1 {
			w.nodes[6].Propose([]byte(name(1001)))
			w.tick(6)
		}
		for len(w.way) > 0 {
			w.give(w.take(0))
		}
		if got := w.nodes[6].Len(); got < 1001 {
			t.Errorf("behind %d Ticks it knows %d decrees", ticks, got)
		}
		if w.mails > 150 {
			t.Errorf("behind %d Ticks it is told them by %d messages", ticks, w.mails)
		}
	}
}

// Pa4: as few messages as can be come through, from the one that decides to the
// others: what one alone knows all know in the end, with nothing that waits.
func TestWhatOneAloneKnows(t *testing.T) {
	for _, size := range sizes[1:] {
		for id := range size {
			w := newWorld(t, size)
			w.propose(id, "a")
			w.tick(id)
			for len(w.way) > 0 && w.nodes[id].Len() == 0 {
				w.give(w.take(0))
			}
			w.way = nil
			w.knows(id, "a")
			w.crash(id)
			w.rounds(size+1, w.all()...)
			w.rests(w.all()...)
			w.knows((id+1)%size, "a")
		}
	}
}

// Pa4: where all has come to rest little is sent: one message of each monitor in a
// round, so that they do not fill the way.
func TestLittleIsSentAtRest(t *testing.T) {
	for _, size := range sizes {
		w := newWorld(t, size)
		for id := range size {
			w.propose(id, name(id))
		}
		w.rounds(20, w.all()...)
		w.mails = 0
		w.rounds(10, w.all()...)
		if w.mails > 10*size {
			t.Errorf("of %d: %d messages in 10 rounds", size, w.mails)
		}
	}
}

// Pa4: even MaxPending values with each monitor come to be decrees, and a round of
// theirs ends.
func TestAllThatCanWait(t *testing.T) {
	for _, size := range []int{1, 3} {
		w := newWorld(t, size)
		for i := range api.MaxPending {
			for id := range size {
				if e := w.nodes[id].Propose([]byte(name(i))); e != api.OK {
					t.Fatalf("Propose: error %d", e)
				}
				w.asked = append(w.asked, asked{mon: id, value: name(i)})
			}
		}
		w.rounds(20, w.all()...)
		w.rests(w.all()...)
		if got := w.nodes[0].Len(); got != size*api.MaxPending {
			t.Errorf("of %d: %d decrees", size, got)
		}
	}
}
