package ballot_test

import (
	"bytes"
	"slices"
	"testing"

	"mooring/api"
	"mooring/ballot"
)

// scribble writes over bytes and over all the room behind their end.
func scribble(b []byte) {
	b = b[:cap(b)]
	for i := range b {
		b[i] ^= 0xFF
	}
}

// room is bytes with others behind their end.
func room(text string) []byte {
	return append([]byte(text), "behind"...)[:len(text)]
}

// apart looks whether what is told stays so when what was handed in is turned, and
// the other way round, and whether both were as they should be.
func apart(t *testing.T, what string, told, handed []byte, want string) {
	t.Helper()
	whole := bytes.Clone(handed[:cap(handed)])
	if string(told) != want {
		t.Fatalf("%s: %q, and not %q", what, told, want)
	}
	scribble(told)
	_ = append(told, "more"...)
	if !bytes.Equal(handed[:cap(handed)], whole) {
		t.Fatalf("%s: what was handed in turns with the answer", what)
	}
	scribble(told)
	scribble(handed)
	if string(told) != want {
		t.Fatalf("%s: the answer turns with what was handed in", what)
	}
	scribble(handed)
}

// R3, Ba2: the Value that Prepare tells is of its own memory, whether it promised or
// not.
func TestPrepareMemory(t *testing.T) {
	for _, text := range []string{"value", ""} {
		v := room(text)
		a := api.Acceptor{Promised: bal(2, 0), Accepted: bal(1, 0), Value: v}
		wrong := api.Acceptor{Promised: bal(1, 0), Accepted: bal(2, 0), Value: v}
		for _, x := range []api.Acceptor{a, wrong} {
			for _, b := range []api.Ballot{bal(3, 0), bal(2, 0), bal(1, 0), {}} {
				got, _ := ballot.Prepare(x, b)
				apart(t, "Prepare", got.Value, v, text)
			}
		}
		if string(v[:cap(v)][:len(text)+6]) != text+"behind" {
			t.Errorf("Prepare turned the value: %q", v[:cap(v)])
		}
	}
}

// R3, Ba2: so is the Value that Accept tells: it shares nothing with the value that
// is accepted, nor with the one that was there.
func TestAcceptMemory(t *testing.T) {
	for _, text := range []string{"value", ""} {
		old, v := room("old"), room(text)
		a := api.Acceptor{Promised: bal(2, 0), Accepted: bal(1, 0), Value: old}
		for _, b := range []api.Ballot{bal(3, 0), bal(2, 0)} {
			got, _ := ballot.Accept(a, b, v)
			apart(t, "Accept", got.Value, v, text)
			got, _ = ballot.Accept(a, b, v)
			apart(t, "Accept", got.Value, old, text)
		}
		for _, b := range []api.Ballot{bal(1, 0), {}} {
			got, _ := ballot.Accept(a, b, v)
			apart(t, "Accept that refuses", got.Value, old, "old")
			got, _ = ballot.Accept(a, b, v)
			apart(t, "Accept that refuses", got.Value, v, "old")
		}
		if string(old[:cap(old)][:9]) != "oldbehind" || string(v[:cap(v)][:len(text)+6]) != text+"behind" {
			t.Errorf("Accept turned a value: %q, %q", old[:cap(old)], v[:cap(v)])
		}
	}
}

// R3, Ba3: what Pick tells is a copy, of a value or of own.
func TestPickMemory(t *testing.T) {
	v, own := room("value"), room("own")
	l := []api.Acceptor{{}, {Promised: bal(1, 0), Accepted: bal(1, 0), Value: v}}
	apart(t, "Pick", ballot.Pick(l, own), v, "value")
	apart(t, "Pick", ballot.Pick(l, own), own, "value")
	apart(t, "Pick of own", ballot.Pick(l[:1], own), own, "own")
	apart(t, "Pick of an empty own", ballot.Pick(nil, own[:0]), own, "")
	l[1].Value = v[:0]
	apart(t, "Pick of an empty value", ballot.Pick(l, own), v, "")
}

// R3, Ba3: so is what Chosen tells.
func TestChosenMemory(t *testing.T) {
	v := room("value")
	for _, text := range []string{"value", ""} {
		a := api.Acceptor{Promised: bal(1, 0), Accepted: bal(1, 0), Value: v[:len(text)]}
		_, got, _ := ballot.Chosen([]api.Acceptor{{}, a, a})
		apart(t, "Chosen", got, v, text)
	}
}

// R3: the lists that are handed in, and what is behind their end, stay as they were.
func TestListsStay(t *testing.T) {
	all := []api.Acceptor{acc(bal(1, 0), bal(1, 0), "a"), acc(bal(3, 0), bal(2, 0), "b"), acc(bal(1, 0), bal(1, 0), "c"), acc(bal(9, 0), bal(9, 0), "behind")}
	was := make([]api.Acceptor, len(all))
	for i, a := range all {
		was[i] = acc(a.Promised, a.Accepted, string(a.Value))
	}
	for n := range len(all) {
		ballot.Pick(all[:n], []byte("own"))
		ballot.Chosen(all[:n])
	}
	if !slices.EqualFunc(all, was, same) {
		t.Errorf("the list is %v, and was %v", all, was)
	}
}
