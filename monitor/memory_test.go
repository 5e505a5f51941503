package monitor_test

import (
	"bytes"
	"slices"
	"testing"

	"mooring/api"
	"mooring/atlas"
)

// scribble writes over bytes and over all the room behind their end.
func scribble(b []byte) {
	b = b[:cap(b)]
	for i := range b {
		b[i] ^= 0xFF
	}
}

// room is bytes with others behind their end.
func room(text string) []byte {
	return append([]byte(text), "behind"...)[:len(text)]
}

// smear writes over a list and over all the room behind its end.
func smear[T any](l []T, with T) {
	l = l[:cap(l)]
	for i := range l {
		l[i] = with
	}
}

// odd is an OSD that no map has.
var odd = api.Osd{Id: -7, Up: true, Weight: -7}

// R3: maps that are told are new memory, their spare room too: what is done to one is
// to be seen in no other one, and not by the monitor, nor in what it comes to later.
func TestMapsAreNewMemory(t *testing.T) {
	for _, n := range []int{1, 3} {
		w := newWorld(t, n)
		for round := range 12 {
			w.ask(round%n, add(11-round))
			w.ask(0, weight(11-round, round+1))
			w.rounds(4, w.all()...)
			for _, x := range w.mons {
				for epoch := range x.Epoch() + 1 {
					one, _ := x.Map(epoch)
					two, _ := x.Map(epoch)
					smear(one.Osds, odd)
					_ = append(one.Osds, odd, odd)
					if !atlas.Same(two, w.maps[epoch]) {
						t.Fatalf("two answers share memory: %v", two)
					}
					smear(two.Osds, odd)
				}
			}
			w.rest(w.all()...)
		}
		if got := w.mons[0].Epoch(); got != 24 {
			t.Errorf("epoch %d", got)
		}
	}
}

// R3: so are the changes that are told.
func TestChangesAreNewMemory(t *testing.T) {
	for _, n := range []int{1, 3} {
		w := newWorld(t, n)
		wrong := api.Change{Kind: -7, Osd: odd}
		for round := range 20 {
			w.ask(round%n, add(round))
			w.rounds(4, w.all()...)
			for _, x := range w.mons {
				one, two := x.Changes(), x.Changes()
				want := slices.Clone(two)
				smear(one, wrong)
				_ = append(one, wrong)
				if !slices.Equal(two, want) {
					t.Fatalf("two answers share memory: %v", two)
				}
				smear(two, wrong)
			}
			w.rest(w.all()...)
		}
	}
}

// R3: what is sent is new memory, each message for itself, its room, too; and what is
// received is not changed and not kept: a run in which all of that is written over
// tells what it tells without.
func TestMessagesAreNotKept(t *testing.T) {
	for _, size := range []int{1, 2, 3, 5} {
		run := func(turn bool) ([]parcel, []api.Change) {
			n := numbers(21)
			w := newWorld(t, size)
			for i := range 500 * size {
				from := n.below(size)
				x := w.mons[from]
				var l []api.Mail
				switch {
				case n.below(8) == 0:
					x.Ask(add(i % 64))
				case len(w.way) == 0 || n.below(5*size) == 0:
					l = x.Tick()
				default:
					p := w.take(n.below(min(2, len(w.way))))
					from = p.to
					b := room(p.data)
					l, _ = w.mons[p.to].Receive(p.from, b)
					if string(b) != p.data || string(b[len(b):cap(b)][:6]) != "behind" {
						t.Fatal("Receive turned what was handed in")
					}
					if turn {
						scribble(b)
					}
				}
				w.post(from, l, l)
				if turn {
					overwrite(t, l)
				}
			}
			return w.sent, w.mons[0].Changes()
		}
		sent, changes := run(true)
		sentElse, changesElse := run(false)
		if !slices.Equal(sent, sentElse) || !slices.Equal(changes, changesElse) {
			t.Fatalf("of %d: messages share memory with a monitor", size)
		}
		if len(changes) < 5 {
			t.Errorf("of %d: %d changes alone", size, len(changes))
		}
	}
}

// overwrite writes over messages, one by one, and looks whether another one turns.
func overwrite(t *testing.T, l []api.Mail) {
	t.Helper()
	for i, m := range l {
		var was [][]byte
		for _, other := range l {
			was = append(was, bytes.Clone(other.Data))
		}
		scribble(m.Data)
		for k, other := range l {
			if k != i && !bytes.Equal(other.Data, was[k]) {
				t.Fatalf("the messages %d and %d of one answer share memory", i, k)
			}
		}
	}
	clear(l[:cap(l)])
}

// R3: monitors share nothing with one another: one goes on, and the other stays.
func TestMonitorsAreApart(t *testing.T) {
	one, two := newMonitor(t, 0, 1, pool), newMonitor(t, 0, 1, pool)
	one.Ask(add(1))
	one.Tick()
	two.Ask(add(2))
	if one.Epoch() != 1 || one.Pending() != 0 || two.Epoch() != 0 || two.Pending() != 1 {
		t.Errorf("epochs %d and %d, %d and %d wait", one.Epoch(), two.Epoch(), one.Pending(), two.Pending())
	}
	two.Tick()
	a, _ := one.Map(1)
	b, _ := two.Map(1)
	if a.Osds[0].Id != 1 || b.Osds[0].Id != 2 {
		t.Errorf("maps %v and %v", a, b)
	}
}
