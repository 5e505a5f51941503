package atlas_test

import (
	"bytes"
	"slices"
	"testing"

	"mooring/api"
	"mooring/atlas"
)

// scribble writes over OSDs and over all the room behind their end.
func scribble(l []api.Osd) {
	l = l[:cap(l)]
	for i := range l {
		l[i] = api.Osd{Id: -7 - i, Up: !l[i].Up, In: !l[i].In, Weight: -l[i].Weight - 1, Life: -1, Boot: -1, Host: -1, Rack: -1}
	}
}

// room is OSDs with others behind their end, as a list and whole.
func room(many int) (l, whole []api.Osd) {
	whole = append(crowd(many), crowd(9)...)
	return whole[:many], whole
}

// R3: what Apply tells has memory of its own, its spare room too, and turns nothing
// that is handed in, nor what is behind its end.
func TestApplyMemory(t *testing.T) {
	for _, many := range []int{0, 1, 2, 10, 63, 64} {
		for _, c := range []api.Change{
			change(api.ChangeAdd, api.Osd{Id: 0, Host: 900}), change(api.ChangeAdd, api.Osd{Id: 999, Host: 900}), change(api.ChangeAdd, api.Osd{Id: 5, Host: 900}),
			change(api.ChangeUp, api.Osd{Id: 2, Life: 9, Boot: 9}), change(api.ChangeDown, api.Osd{Id: 2}), change(api.ChangeIn, api.Osd{Id: 2}),
			change(api.ChangeOut, api.Osd{Id: 4}), change(api.ChangeWeight, api.Osd{Id: 2, Weight: 5}),
			change(api.ChangeDown, api.Osd{Id: 4}), change(api.ChangeDown, api.Osd{Id: 1}), change(0, api.Osd{}), change(api.ChangeAdd, api.Osd{Id: 2}),
		} {
			l, whole := room(many)
			was := slices.Clone(whole)
			m := holding(l...)
			m.Osds = l
			want, _ := slowApply(m, c)
			got, _ := atlas.Apply(m, c)
			other, _ := atlas.Apply(m, c)
			if !slices.Equal(whole, was) {
				t.Fatalf("Apply of %+v turned what was handed in", c)
			}
			scribble(other.Osds)
			_ = append(other.Osds, api.Osd{Id: 5})
			if !slices.Equal(whole, was) {
				t.Fatalf("Apply of %+v: what was handed in turns with the answer", c)
			}
			scribble(whole)
			if !same(got, want) {
				t.Fatalf("Apply of %+v: the answer turns with what was handed in, or with another answer", c)
			}
		}
	}
}

// R3: what Fold tells has memory of its own, and the list and what is behind its end
// stay as they were.
func TestFoldMemory(t *testing.T) {
	var whole []api.Change
	for id := range 20 {
		whole = append(whole, change(api.ChangeAdd, api.Osd{Id: id % 15, Host: id % 15, Life: 1}), change(api.ChangeUp, api.Osd{Id: id % 15, Life: 1, Boot: 1}))
	}
	was := slices.Clone(whole)
	l := whole[:30]
	m, told, _ := atlas.Fold(few(), l)
	wantMap, wantTold := listed(m), slices.Clone(told)
	other, otherTold, _ := atlas.Fold(few(), l)
	scribble(other.Osds)
	for i := range otherTold[:cap(otherTold)] {
		otherTold[:cap(otherTold)][i] = -1
	}
	if !slices.Equal(whole, was) {
		t.Fatal("Fold turned its list, or shares memory with it")
	}
	clear(whole)
	if !slices.Equal(listed(m), wantMap) || !slices.Equal(told, wantTold) {
		t.Fatal("what Fold tells turns with its list, or with another answer")
	}
}

// R3: bytes are new memory, and those that are handed in are not kept.
func TestBytesMemory(t *testing.T) {
	for _, many := range []int{0, 1, 64} {
		l, whole := room(many)
		was := slices.Clone(whole)
		m := holding()
		m.Osds = l
		b, _ := atlas.Encode(m)
		want := bytes.Clone(b)
		other, _ := atlas.Encode(m)
		turnBytes(other)
		scribble(whole)
		if !bytes.Equal(b, want) {
			t.Fatal("a map's bytes turn with the map, or with another answer")
		}
		behind := append(bytes.Clone(b), "behind"...)
		got, _ := atlas.Decode(behind[:len(b)])
		again, _ := atlas.Decode(behind[:len(b)])
		scribble(again.Osds)
		if !bytes.Equal(behind, append(bytes.Clone(b), "behind"...)) {
			t.Fatal("Decode turned its bytes")
		}
		turnBytes(behind)
		if !same(got, holding(was[:many]...)) {
			t.Fatal("a map turns with its bytes, or with another answer")
		}
	}
	for _, c := range changeSamples() {
		b, _ := atlas.EncodeChange(c)
		want := bytes.Clone(b)
		other, _ := atlas.EncodeChange(c)
		turnBytes(other)
		if !bytes.Equal(b, want) {
			t.Fatal("a change's bytes turn with another answer")
		}
		behind := append(bytes.Clone(b), "behind"...)
		if got, errno := atlas.DecodeChange(behind[:len(b)]); errno != api.OK || got != c || string(behind[len(b):]) != "behind" || !bytes.Equal(behind[:len(b)], b) {
			t.Fatalf("DecodeChange of bytes with others behind: %+v, error %d, and the bytes %X", got, errno, behind)
		}
	}
}

// turnBytes writes over bytes and over all the room behind their end.
func turnBytes(b []byte) {
	b = b[:cap(b)]
	for i := range b {
		b[i] ^= 0xFF
	}
}

// R3: Check, Find and Same turn nothing.
func TestLookingTurnsNothing(t *testing.T) {
	l, whole := room(30)
	was := slices.Clone(whole)
	m := api.Map{Epoch: 3, Pool: few(), Osds: l}
	atlas.Check(m)
	o, _ := atlas.Find(m, 4)
	atlas.Same(m, m)
	if !slices.Equal(whole, was) {
		t.Error("what was handed in was turned")
	}
	scribble(whole)
	if o != was[1] {
		t.Error("the OSD that Find told turns with the map")
	}
}

// R3: nil and the empty list are the same.
func TestNilAndEmpty(t *testing.T) {
	for _, l := range [][]api.Osd{nil, {}, make([]api.Osd, 0, 9), crowd(4)[:0]} {
		m := api.Map{Pool: few(), Osds: l}
		checks(t, m, true)
		if got, errno := applies(t, m, change(api.ChangeAdd, api.Osd{})); errno != api.OK || len(got.Osds) != 1 {
			t.Errorf("%+v, error %d", got, errno)
		}
		refuses(t, "none there", m, change(api.ChangeIn, api.Osd{}), api.ErrNone)
		findsNone(t, m, 0)
	}
	for _, l := range [][]api.Change{nil, {}, make([]api.Change, 0, 3)} {
		folds(t, few(), l, api.Map{Pool: few()}, nil)
	}
}
