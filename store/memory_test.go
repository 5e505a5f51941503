package store_test

import (
	"bytes"
	"slices"
	"testing"

	"mooring/api"
	"mooring/store"
)

// scribble writes over bytes and over all the room behind their end.
func scribble(b []byte) {
	b = b[:cap(b)]
	for i := range b {
		b[i] ^= 0xFF
	}
}

// scribbleActs writes over acts, over their data and over all the room behind.
func scribbleActs(l []api.Act) {
	l = l[:cap(l)]
	for i := range l {
		scribble(l[i].Data)
		l[i] = api.Act{Key: "scribbled", Set: i%2 == 0, Data: []byte("scribbled")}
	}
}

// roomy is bytes with more behind their end.
func roomy(s string) []byte { return append([]byte(s), "behind"...)[:len(s)] }

// roomyActs is acts with more behind their end, and behind the end of their data.
func roomyActs() []api.Act {
	l := []api.Act{
		{Key: "a", Set: true, Data: roomy("first")},
		{Key: "b", Set: true, Data: roomy("")},
		{Key: "a", Data: roomy("")},
		{Key: "c", Set: true, Data: roomy("third")},
		{Key: "behind", Set: true, Data: roomy("more")},
	}
	return l[:4]
}

// deep is acts with all that is behind their ends, in memory of their own.
func deep(l []api.Act) []api.Act {
	out := slices.Clone(l[:cap(l)])
	for i := range out {
		out[i].Data = bytes.Clone(out[i].Data[:cap(out[i].Data)])
	}
	return out
}

// R3: Encode does not change its acts, and its answer is new memory.
func TestEncodeMemory(t *testing.T) {
	l := roomyActs()
	was := deep(l)
	want := slowEncode(l)
	first, _ := store.Encode(l)
	second, _ := store.Encode(l)
	if !sameActs(deep(l), was) {
		t.Fatal("Encode changed its acts")
	}
	scribble(first)
	if !bytes.Equal(second, want) || !sameActs(deep(l), was) {
		t.Fatal("an answer shares memory with another one, or with the acts")
	}
	scribbleActs(l)
	if !bytes.Equal(second, want) {
		t.Fatal("an answer shares memory with the acts")
	}
}

// R3: Decode does not change its bytes, and its answer is new memory: no two
// lists of it share any.
func TestDecodeMemory(t *testing.T) {
	l := []api.Act{set("a", "first"), set("b", "second"), take("c"), set("d", some(300, 1))}
	b := append(slowEncode(l), "behind"...)
	was := bytes.Clone(b)
	in := b[:len(b)-len("behind")]
	first, _ := store.Decode(in)
	second, _ := store.Decode(in)
	if !bytes.Equal(b, was) {
		t.Fatal("Decode changed its bytes")
	}
	for i := range first {
		scribble(first[i].Data)
		for k := range first {
			if k > i && !bytes.Equal(first[k].Data, l[k].Data) {
				t.Fatalf("the data of %d and %d share memory", i, k)
			}
		}
	}
	scribbleActs(first)
	if !sameActs(second, l) || !bytes.Equal(b, was) {
		t.Fatal("an answer shares memory with another one, or with the bytes")
	}
	scribble(b)
	if !sameActs(second, l) {
		t.Fatal("an answer shares memory with the bytes")
	}
}

// R3: Apply does not change its acts, and keeps none of their memory.
func TestApplyMemory(t *testing.T) {
	s, d := newStore(t, 20)
	l := roomyActs()
	was, kept := deep(l), []api.Act{set("a", "first"), set("b", ""), take("a"), set("c", "third")}
	want := leave(t, kept)
	apply(t, s, l...)
	if !sameActs(deep(l), was) {
		t.Fatal("Apply changed its acts")
	}
	scribbleActs(l)
	tells(t, s, want, 1)
	keeps(t, d, kept)
	tells(t, open(t, d), want, 1)
	was = deep(l)
	apply(t, s, set("c", "other"), take("b"))
	if !sameActs(deep(l), was) {
		t.Fatal("acts turned with the store")
	}
}

// R3: acts that are refused stay as they are, too.
func TestRefusedMemory(t *testing.T) {
	s, _ := newStore(t, 1)
	for _, more := range [][]api.Act{nil, {take("x")}, {set("y", some(300, 1))}, {take("")}, sized(t, longest, 1)} {
		l := append(roomyActs(), more...)
		was := deep(l)
		s.Apply(l)
		if !sameActs(deep(l), was) {
			t.Fatal("Apply changed its acts")
		}
	}
}

// R3: one list of acts, and one list of bytes in it, may be applied often, and
// turned between.
func TestOneListIsAppliedOften(t *testing.T) {
	s, d := newStore(t, 20)
	data := []byte("x")
	l := []api.Act{{Set: true, Data: data}, {Set: true, Data: data}}
	var want []pair
	for i := range 4 {
		data[0] = byte('0' + i)
		l[0].Key, l[1].Key = string(rune('a'+2*i)), string(rune('b'+2*i))
		apply(t, s, l...)
		want = append(want, pair{l[0].Key, string(data)}, pair{l[1].Key, string(data)})
	}
	data[0] = '?'
	tells(t, s, want, 4)
	tells(t, open(t, d), want, 4)
}

// R3: what Get tells is new memory, behind Apply and behind Open.
func TestGetMemory(t *testing.T) {
	applied, d := newStore(t, 20)
	apply(t, applied, set("a", "first"), set("b", "second"), set("e", ""))
	want := []pair{{"a", "first"}, {"b", "second"}, {"e", ""}}
	for _, s := range []*store.Store{applied, open(t, d)} {
		for _, p := range want {
			first, _ := s.Get(p.key)
			second, _ := s.Get(p.key)
			scribble(first)
			if string(second) != p.value {
				t.Fatalf("%s: two answers share memory", p.key)
			}
			scribble(second)
			tells(t, s, want, 1)
		}
	}
	keeps(t, d, []api.Act{set("a", "first"), set("b", "second"), set("e", "")})
	b, _ := applied.Get("a")
	apply(t, applied, set("a", "other"))
	apply(t, applied, take("a"))
	if string(b) != "first" {
		t.Error("an answer turned with the store")
	}
}

// R3: what All tells is new memory: each value is its own, in each loop.
func TestAllMemory(t *testing.T) {
	applied, d := newStore(t, 20)
	apply(t, applied, set("a", "first"), set("b", "second"), set("c", "third"), set("e", ""))
	want := []pair{{"a", "first"}, {"b", "second"}, {"c", "third"}, {"e", ""}}
	for _, s := range []*store.Store{applied, open(t, d)} {
		var kept [][]byte
		for _, value := range s.All("") {
			kept = append(kept, value)
		}
		at := 0
		for key, value := range s.All("") {
			if (pair{key, string(value)}) != want[at] {
				t.Fatalf("%s, %q, and not %q", key, value, want[at])
			}
			scribble(value)
			at++
		}
		for i, p := range want {
			if string(kept[i]) != p.value {
				t.Fatalf("%s: two loops share memory", p.key)
			}
			scribble(kept[i])
		}
		tells(t, s, want, 1)
	}
	keeps(t, d, []api.Act{set("a", "first"), set("b", "second"), set("c", "third"), set("e", "")})
}

// R4: stores of other disks have nothing to do with one another.
func TestStoresAreApart(t *testing.T) {
	one, first := newStore(t, 20)
	two, second := newStore(t, 20)
	apply(t, one, set("a", "1"))
	tells(t, two, nil, 0)
	apply(t, two, set("b", "2"))
	apply(t, one, take("a"))
	tells(t, one, nil, 2)
	tells(t, two, []pair{{"b", "2"}}, 1)
	tells(t, open(t, first), nil, 2)
	tells(t, open(t, second), []pair{{"b", "2"}}, 1)
}
