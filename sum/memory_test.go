package sum_test

import (
	"bytes"
	"testing"

	"mooring/sum"
)

// roomy is bytes with room behind their end, and ahead of their beginning.
type roomy struct{ all, was []byte }

func newRoomy(b []byte) *roomy {
	all := append([]byte{1, 2, 3}, b...)
	all = append(all, 4, 5, 6, 7, 8, 9, 10, 11, 12)
	return &roomy{all, bytes.Clone(all)}
}

// bytes are those that are handed in, with room behind them.
func (r *roomy) bytes() []byte { return r.all[3 : len(r.all)-9] }

func (r *roomy) changed() bool { return !bytes.Equal(r.all, r.was) }

// scribble writes over bytes and over all the room behind their end.
func scribble(b []byte) {
	b = b[:cap(b)]
	for i := range b {
		b[i] ^= 0xFF
	}
}

// stripped is Strip's bytes alone.
func stripped(b []byte) []byte {
	out, _ := sum.Strip(b)
	return out
}

// R3: what is handed in stays as it was, and so does the room behind its end.
func TestBytesAreLeftAlone(t *testing.T) {
	for _, b := range samples() {
		r := newRoomy(b)
		sum.Of(r.bytes())
		sum.More(7, r.bytes())
		sum.Append(r.bytes())
		sum.Strip(r.bytes())
		with := newRoomy(sum.Append(b))
		sum.Strip(with.bytes())
		sum.Append(with.bytes())
		if r.changed() || with.changed() {
			t.Fatalf("%d bytes: what was handed in was changed", len(b))
		}
	}
}

// R3: the answers of Append and Strip are new memory, their spare room too, and
// nothing is kept.
func TestAnswersAreNewMemory(t *testing.T) {
	for _, b := range samples() {
		for _, asked := range []struct {
			what string
			call func([]byte) []byte
			from []byte
		}{
			{"Append", sum.Append, b},
			{"Strip", stripped, sum.Append(b)},
		} {
			r := newRoomy(asked.from)
			first, second := asked.call(r.bytes()), asked.call(r.bytes())
			want := bytes.Clone(first)
			scribble(first)
			if r.changed() {
				t.Fatalf("%s: the answer shares memory with the argument", asked.what)
			}
			if !bytes.Equal(second, want) {
				t.Fatalf("%s: two answers share memory", asked.what)
			}
			scribble(r.all)
			if !bytes.Equal(second, want) {
				t.Fatalf("%s: the argument is kept in the answer", asked.what)
			}
			if third := asked.call(asked.from); !bytes.Equal(third, want) {
				t.Fatalf("%s: a later answer is another one", asked.what)
			}
		}
	}
}

// R3: an answer may be handed in again, and grow, and the argument stays.
func TestAnswersMayGrow(t *testing.T) {
	with := newRoomy(sum.Append([]byte("abc")))
	out, ok := sum.Strip(with.bytes())
	if !ok {
		t.Fatal("Strip tells false")
	}
	_ = append(out, "defghijklmnop"...)
	_ = append(sum.Append(with.bytes()), "defghijklmnop"...)
	if with.changed() {
		t.Error("what was put behind an answer stands in the argument")
	}
}
