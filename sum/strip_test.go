package sum_test

import (
	"bytes"
	"testing"

	"mooring/sum"
)

// refused tells whether Strip tells false of bytes, and nothing beside it.
func refused(b []byte) bool {
	out, ok := sum.Strip(b)
	return len(out) == 0 && !ok
}

// Su2: the bytes, and their sum, the lowest of its bytes first.
func TestAppend(t *testing.T) {
	want := []byte("123456789\x83\x92\x06\xE3")
	if out := sum.Append([]byte("123456789")); !bytes.Equal(out, want) {
		t.Errorf("Append = %X, want %X", out, want)
	}
	for _, b := range samples() {
		want := append(bytes.Clone(b), low(slowOf(b))...)
		if out := sum.Append(b); !bytes.Equal(out, want) {
			t.Errorf("Append of %d bytes = %X, want %X", len(b), out, want)
		}
	}
}

// Su2: Strip takes what Append put there.
func TestStrip(t *testing.T) {
	for _, b := range samples() {
		with := append(bytes.Clone(b), low(slowOf(b))...)
		if out, ok := sum.Strip(with); !bytes.Equal(out, b) || !ok {
			t.Errorf("Strip of %d bytes and their sum = %X, %v", len(b), out, ok)
		}
		if out, ok := sum.Strip(sum.Append(b)); !bytes.Equal(out, b) || !ok {
			t.Errorf("Strip of Append of %d bytes = %X, %v", len(b), out, ok)
		}
	}
}

// Su2: sums of sums are taken off one by one.
func TestStripTwice(t *testing.T) {
	for _, b := range samples() {
		once := sum.Append(b)
		out, ok := sum.Strip(sum.Append(once))
		if !bytes.Equal(out, once) || !ok {
			t.Fatalf("Strip of %d bytes with two sums = %X, %v", len(b), out, ok)
		}
		if out, ok = sum.Strip(out); !bytes.Equal(out, b) || !ok {
			t.Fatalf("Strip of %d bytes with the other sum = %X, %v", len(b), out, ok)
		}
	}
}

// Su2: fewer than four bytes have no sum behind them.
func TestStripOfFewBytes(t *testing.T) {
	if !refused(nil) || !refused([]byte{}) {
		t.Error("Strip of nothing tells something")
	}
	for n := 1; n < 4; n++ {
		for _, b := range [][]byte{make([]byte, n), bytes.Repeat([]byte{0xFF}, n), filled(n, n)} {
			if !refused(b) {
				t.Errorf("Strip of %v tells something", b)
			}
		}
	}
	// What lies behind the end does not belong to the bytes.
	if !refused(make([]byte, 4)[:3]) || !refused(make([]byte, 4)[:0]) {
		t.Error("Strip reads behind the end")
	}
}

// Su2: bytes that are just their sum: that of nothing.
func TestStripOfFourBytes(t *testing.T) {
	if out, ok := sum.Strip([]byte{0, 0, 0, 0}); len(out) != 0 || !ok {
		t.Errorf("Strip of the sum of nothing = %v, %v, want nothing, true", out, ok)
	}
	for bit := range 32 {
		b := make([]byte, 4)
		turn(b, bit)
		if !refused(b) {
			t.Errorf("Strip of %v tells something", b)
		}
	}
	if !refused([]byte{0xFF, 0xFF, 0xFF, 0xFF}) {
		t.Error("Strip of four times FF tells something")
	}
}

// Su2: five bytes, of which the first is any.
func TestStripOfFiveBytes(t *testing.T) {
	for i := range 256 {
		one := []byte{byte(i)}
		b := append(bytes.Clone(one), low(slowOf(one))...)
		if out, ok := sum.Strip(b); !bytes.Equal(out, one) || !ok {
			t.Errorf("Strip of %v = %v, %v", b, out, ok)
		}
		for j := range 256 {
			b[0] = byte(j)
			if i != j && !refused(b) {
				t.Errorf("Strip of %v tells something", b)
			}
		}
	}
}

// Su2: each bit turned in turn, of the bytes and of their sum.
func TestStripOfTurnedBits(t *testing.T) {
	for _, b := range samples() {
		if len(b) > 300 {
			continue
		}
		with := sum.Append(b)
		for bit := range len(with) * 8 {
			turn(with, bit)
			if !refused(with) {
				t.Fatalf("%d bytes, bit %d turned: Strip tells something", len(b), bit)
			}
			turn(with, bit)
		}
	}
}

// Su2: the sum's bytes in another order, or cut off, or with bytes behind.
func TestStripOfMisplacedSums(t *testing.T) {
	b := []byte("123456789")
	s := low(slowOf(b))
	for _, wrong := range [][]byte{{s[3], s[2], s[1], s[0]}, {s[1], s[0], s[3], s[2]}, s[:3], s[1:], {}, {s[0], s[1], s[2], s[3], 0}} {
		if !refused(append(bytes.Clone(b), wrong...)) {
			t.Errorf("%v behind the bytes: Strip tells something", wrong)
		}
	}
}
