package monitor_test

import (
	"testing"
)

// longEnough is how many rounds layer 12's Pa4 speaks of, and few how many changes may
// wait.
const (
	longEnough = 400
	few        = 12
)

// waiting is how many changes wait, in all.
func (w *world) waiting() int {
	sum := 0
	for _, x := range w.mons {
		sum += x.Pending()
	}
	return sum
}

// chaos is a beginning of any kind: at its end at most so many changes wait, and some of
// what is on its way is lost, or all.
func (w *world) chaos(n *numbers, h habits, steps, most int) {
	w.t.Helper()
	for range steps {
		now := h
		if w.waiting() >= most {
			now.ask = 0
		}
		w.act(n.below, now)
	}
	keep := n.below(3)
	var left []parcel
	for _, p := range w.way {
		if keep == 2 || keep == 1 && n.below(2) == 0 {
			left = append(left, p)
		}
	}
	w.way = left
}

// some is so many of the monitors, by rising numbers.
func (w *world) some(n *numbers, count int) []int {
	out := w.all()
	for len(out) > count {
		i := n.below(len(out))
		out = append(out[:i], out[i+1:]...)
	}
	return out
}

// fill lets so many changes wait in all, each for an OSD of its own, with any of these
// monitors. It tells how many came.
func (w *world) fill(n *numbers, count int, among []int) int {
	w.t.Helper()
	came := 0
	for w.waiting() < count {
		c := add(100 + came)
		c.Osd.Host = 50 // where nobody else is
		w.ask(among[n.below(len(among))], c)
		came++
	}
	return came
}

// has is how many of the OSDs that fill asked for a monitor's last map has.
func (w *world) has(id int) int {
	w.t.Helper()
	m, ok := w.mons[id].Map(w.mons[id].Epoch())
	if !ok {
		w.t.Fatalf("%d has no last map", id)
	}
	sum := 0
	for _, o := range m.Osds {
		if o.Id >= 100 {
			sum++
		}
	}
	return sum
}

// Mo3: from a beginning of any kind on, with 1 to 12 changes that wait: 400 rounds with
// nobody crashed and nothing lost, and all have the same maps, with all that waited.
func TestItComesToRest(t *testing.T) {
	t.Parallel()
	n := numbers(400)
	for _, size := range sizes {
		for k, h := range kinds() {
			for i := range 3 {
				w := peopled(t, size)
				count := 1 + (4*k+i+size)%few
				w.chaos(&n, h, 60*size*i, count)
				came := w.fill(&n, count, w.all())
				w.blind = true
				w.rounds(longEnough, w.all()...)
				w.rest(w.all()...)
				if w.has(0) != came {
					t.Fatalf("of %d: %d came, and %d are there", size, came, w.has(0))
				}
			}
		}
	}
}

// Mo3: so it is for the others, if fewer than half have no Tick and take nothing; and
// for all, when these are back.
func TestItComesToRestWithoutSome(t *testing.T) {
	t.Parallel()
	n := numbers(401)
	for _, size := range sizes[2:] {
		for k, h := range kinds() {
			for i := range 3 {
				w := peopled(t, size)
				count := 1 + (4*k+i+size)%few
				w.chaos(&n, h, 60*size*i, count)
				w.blind = true
				awake := w.some(&n, size-1-n.below((size-1)/2))
				w.fill(&n, count, awake)
				w.rounds(longEnough, awake...)
				w.rest(awake...)
				w.rounds(longEnough, w.all()...)
				w.rest(w.all()...)
			}
		}
	}
}

// Mo3: changes that come to wait while the rounds go on are done at their end, too.
func TestChangesComeWhileItRests(t *testing.T) {
	n := numbers(402)
	for _, size := range sizes {
		w := newWorld(t, size)
		for i := range few {
			w.ask(n.below(size), add(i))
			w.rounds(n.below(4), w.all()...)
		}
		w.rounds(longEnough/10, w.all()...)
		w.rest(w.all()...)
		if got := w.mons[0].Epoch(); got != few {
			t.Fatalf("of %d: epoch %d", size, got)
		}
	}
}

// Mo3: all changes with one monitor, and one with each.
func TestAllWithOneAndOneWithEach(t *testing.T) {
	for _, size := range sizes {
		for id := range size {
			w := newWorld(t, size)
			for i := range few {
				w.ask(id, add(i))
			}
			w.rounds(longEnough/10, w.all()...)
			w.rest(w.all()...)
			if got := w.mons[0].Epoch(); got != few {
				t.Fatalf("%d of %d: epoch %d", id, size, got)
			}
		}
		w := newWorld(t, size)
		for id := range size {
			w.ask(id, add(id))
		}
		w.rounds(longEnough/10, w.all()...)
		w.rest(w.all()...)
		if got := w.mons[0].Epoch(); got != size {
			t.Fatalf("one with each of %d: epoch %d", size, got)
		}
	}
}
