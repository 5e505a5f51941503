package paxos_test

import (
	"bytes"
	"slices"
	"testing"

	"mooring/api"
)

// scribble writes over bytes and over all the room behind their end.
func scribble(b []byte) {
	b = b[:cap(b)]
	for i := range b {
		b[i] ^= 0xFF
	}
}

// room is bytes with others behind their end.
func room(text string) []byte {
	return append([]byte(text), "behind"...)[:len(text)]
}

// R3: a value that is proposed is not kept, and not changed, nor is what lies behind
// it.
func TestProposedValuesAreNotKept(t *testing.T) {
	for _, size := range []int{1, 3} {
		for _, text := range []string{"", "v", "value"} {
			w := newWorld(t, size)
			v := room(text)
			whole := bytes.Clone(v[:cap(v)])
			for range 2 {
				w.asked = append(w.asked, asked{value: text})
				if e := w.nodes[0].Propose(v); e != api.OK {
					t.Fatalf("Propose: error %d", e)
				}
			}
			if !bytes.Equal(v[:cap(v)], whole) {
				t.Fatalf("Propose of %q turned it: %q", text, v[:cap(v)])
			}
			scribble(v)
			turned := bytes.Clone(v[:cap(v)])
			w.rounds(4, w.all()...)
			w.knows(0, text, text)
			if !bytes.Equal(v[:cap(v)], turned) {
				t.Fatal("a value turned that was proposed long ago")
			}
		}
	}
}

// R3: what Get tells is new memory each time.
func TestGetIsNewMemory(t *testing.T) {
	w := newWorld(t, 3)
	w.propose(0, "value")
	w.propose(0, "")
	w.rounds(3, 0, 1, 2)
	for id, x := range w.nodes {
		for i := 1; i <= 2; i++ {
			one, _ := x.Get(i)
			two, _ := x.Get(i)
			want := string(two)
			scribble(one)
			_ = append(one, "more"...)
			if string(two) != want {
				t.Fatalf("%d: two answers share memory", id)
			}
			scribble(two)
			w.knows(id, "value", "")
		}
	}
	w.propose(1, "next")
	w.rounds(3, 0, 1, 2)
	w.rests(0, 1, 2)
	w.knows(2, "value", "", "next")
}

// R3: what is sent is new memory, each message for itself, its room, too; and what is
// received is not changed and not kept: a run in which all of that is written over
// tells what it tells without.
func TestMessagesAreNotKept(t *testing.T) {
	for _, size := range []int{2, 3, 5} {
		run := func(turn bool) *world {
			n := numbers(21)
			w := newWorld(t, size)
			for i := range 400 {
				from, to := n.below(size), 0
				var l []api.Mail
				switch {
				case n.below(8) == 0:
					w.propose(from, name(i))
				case len(w.way) == 0 || n.below(6) == 0:
					l = w.nodes[from].Tick()
				default:
					p := w.take(n.below(len(w.way)))
					from, to = p.to, p.from
					b := room(p.data)
					whole := bytes.Clone(b[:cap(b)])
					l, _ = w.nodes[from].Receive(to, b)
					if !bytes.Equal(b[:cap(b)], whole) {
						t.Fatal("Receive turned what was handed in")
					}
					if turn {
						scribble(b)
					}
				}
				w.post(from, l)
				if turn {
					overwrite(t, l)
				}
				w.look(from)
			}
			w.rounds(5, w.all()...)
			return w
		}
		with, without := run(true), run(false)
		if !slices.Equal(with.sent, without.sent) || !slices.Equal(with.longest, without.longest) {
			t.Fatalf("of %d: messages share memory with a monitor", size)
		}
		if len(with.longest) < 5 {
			t.Errorf("of %d: %d decrees alone", size, len(with.longest))
		}
	}
}

// overwrite writes over messages, one by one, and looks whether another one turns.
func overwrite(t *testing.T, l []api.Mail) {
	t.Helper()
	for i, m := range l {
		var was [][]byte
		for _, other := range l {
			was = append(was, bytes.Clone(other.Data))
		}
		scribble(m.Data)
		for k, other := range l {
			if k != i && !bytes.Equal(other.Data, was[k]) {
				t.Fatalf("the messages %d and %d of one answer share memory", i, k)
			}
		}
	}
	l = l[:cap(l)]
	clear(l)
}
