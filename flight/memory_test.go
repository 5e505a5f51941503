package flight_test

import (
	"bytes"
	"testing"
)

// scribble writes over bytes and over all the room behind their end.
func scribble(b []byte) {
	b = b[:cap(b)]
	for i := range b {
		b[i] ^= 0xFF
	}
}

// R3: Post does not change its bytes, nor what is behind their end, and keeps none
// of their memory.
func TestPostMemory(t *testing.T) {
	f := newFlight(t)
	room := []byte("first and behind")
	was := bytes.Clone(room)
	for _, n := range []int{5, 0, 16} {
		if !f.Post(1, 2, room[:n]) {
			t.Fatal("no room")
		}
	}
	want := []letter{{1, 2, "first"}, {1, 2, ""}, {1, 2, "first and behind"}}
	if !bytes.Equal(room, was) {
		t.Fatal("Post changed its bytes")
	}
	scribble(room)
	holds(t, f, want...)
	was = bytes.Clone(room)
	f.Twice(0)
	f.Look(2)
	f.Deliver(2)
	f.Drop(0)
	f.Clear(2)
	if !bytes.Equal(room, was) {
		t.Fatal("the bytes turned with the Flight")
	}
}

// R3: one list of bytes may be posted often, and turned between.
func TestOneListIsPostedOften(t *testing.T) {
	f := newFlight(t)
	data := []byte("x")
	var want []letter
	for i := range 5 {
		data[0] = byte('0' + i)
		f.Post(1, 2, data)
		want = append(want, letter{1, 2, string(data)})
	}
	data[0] = '?'
	holds(t, f, want...)
}

// R3: bytes that are refused stay as they are, too.
func TestRefusedMemory(t *testing.T) {
	f := newFlight(t)
	post(t, f, crowd(most)...)
	room := []byte("first and behind")
	was := bytes.Clone(room)
	if f.Post(1, 2, room[:5]) || !bytes.Equal(room, was) {
		t.Fatal("Post changed its bytes, or there was room")
	}
}

// R3: what Look tells is new memory: of posted ones and of doubled ones.
func TestLookMemory(t *testing.T) {
	f := newFlight(t)
	want := []letter{{1, 2, "first"}, {1, 2, ""}, {3, 4, "third, that is longer than the others by far"}}
	post(t, f, want...)
	for i := range 3 {
		f.Twice(i)
	}
	want = append(want, want...)
	for i, x := range want {
		_, _, first, _ := f.Look(i)
		_, _, second, _ := f.Look(i)
		scribble(first)
		if string(second) != x.text {
			t.Fatalf("Look(%d): two answers share memory", i)
		}
		scribble(second)
		holds(t, f, want...)
	}
	_, _, b, _ := f.Look(0)
	f.Deliver(0)
	f.Drop(0)
	f.Clear(2)
	post(t, f, letter{1, 2, "other"}, letter{1, 2, "other"}, letter{1, 2, "other"})
	if string(b) != "first" {
		t.Fatal("an answer turned with the Flight")
	}
}

// R3: what Deliver tells is new memory: its doubles on their way do not turn with
// it, nor do its doubles that are told later or were told ahead.
func TestDeliverMemory(t *testing.T) {
	x, y := letter{1, 2, "doubled"}, letter{2, 1, "other"}
	f := newFlight(t)
	post(t, f, x, y)
	for range 3 {
		f.Twice(0)
	}
	_, _, looked, _ := f.Look(2)
	_, _, first, _ := f.Deliver(0)
	scribble(first)
	holds(t, f, y, x, x, x)
	_, _, second, _ := f.Deliver(3)
	_, _, third, _ := f.Deliver(1)
	scribble(second)
	holds(t, f, y, x)
	if string(third) != x.text || string(looked) != x.text {
		t.Fatal("two answers share memory")
	}
	scribble(looked)
	scribble(third)
	delivers(t, f, 1, x)
	delivers(t, f, 0, y)
}

// R3: the spare room of an answer is new memory, too: one may append to it.
func TestSpareRoom(t *testing.T) {
	f := newFlight(t)
	want := []letter{{1, 2, "a"}, {1, 2, "b"}, {1, 2, ""}, {1, 2, "c"}}
	post(t, f, want...)
	for i := range want {
		_, _, b, _ := f.Look(i)
		_ = append(b, "more behind"...)
		holds(t, f, want...)
	}
	for len(want) > 0 {
		_, _, b, _ := f.Deliver(0)
		_ = append(b, "more behind"...)
		want = want[1:]
		holds(t, f, want...)
	}
}
