package atlas_test

import (
	"bytes"
	"math"
	"slices"
	"testing"

	"mooring/api"
	"mooring/atlas"
	"mooring/wire"
)

// At2: maps written out byte by byte.
func TestEncodeWrittenOut(t *testing.T) {
	cases := []struct {
		m    api.Map
		want []byte
	}{
		{api.Map{Pool: api.Pool{K: 1, M: 1, Pgs: 1}}, []byte{0, 1, 1, 1, 0, 0}},
		{api.Map{Epoch: 300, Pool: api.Pool{K: 20, M: 12, Pgs: 32, Domain: 2}, Osds: []api.Osd{}}, []byte{0xAC, 2, 20, 12, 32, 2, 0}},
		{
			api.Map{Epoch: 3, Pool: few(), Osds: []api.Osd{{Id: 3, Life: 7, Boot: 1}}},
			[]byte{3, 2, 1, 4, 0, 1, 3, 0, 0, 0, 7, 1, 0, 0},
		},
		{
			api.Map{Epoch: 1 << 20, Pool: few(), Osds: []api.Osd{{Id: 1, Up: true, Weight: 2, Life: 3, Boot: 4, Host: 5, Rack: 6}, {Id: 999, In: true, Weight: 1 << 24, Life: 1<<31 - 1, Boot: 200, Host: 998, Rack: 997}}},
			[]byte{0x80, 0x80, 0x40, 2, 1, 4, 0, 2, 1, 1, 0, 2, 3, 4, 5, 6, 0xE7, 7, 0, 1, 0x80, 0x80, 0x80, 8, 0xFF, 0xFF, 0xFF, 0xFF, 7, 0xC8, 1, 0xE6, 7, 0xE5, 7},
		},
	}
	for _, c := range cases {
		if b, errno := atlas.Encode(c.m); errno != api.OK || !bytes.Equal(b, c.want) {
			t.Errorf("%+v: %X and error %d, and not %X", c.m, b, errno, c.want)
		}
		decodes(t, c.want, c.m)
	}
}

// At2: changes written out byte by byte.
func TestEncodeChangeWrittenOut(t *testing.T) {
	cases := []struct {
		c    api.Change
		want []byte
	}{
		{change(api.ChangeAdd, api.Osd{Id: 1, Up: true, Weight: 2, Life: 3, Boot: 4, Host: 5, Rack: 6}), []byte{1, 1, 1, 0, 2, 3, 4, 5, 6}},
		{change(api.ChangeUp, api.Osd{Id: 3, Life: 7, Boot: 1}), []byte{2, 3, 0, 0, 0, 7, 1, 0, 0}},
		{change(api.ChangeDown, api.Osd{Id: 3}), []byte{3, 3, 0, 0, 0, 0, 0, 0, 0}},
		{change(api.ChangeIn, api.Osd{Id: 300}), []byte{4, 0xAC, 2, 0, 0, 0, 0, 0, 0, 0}},
		{change(api.ChangeOut, api.Osd{}), []byte{5, 0, 0, 0, 0, 0, 0, 0, 0}},
		{change(api.ChangeWeight, api.Osd{Id: 9, Weight: api.One}), []byte{6, 9, 0, 0, 0x80, 0x80, 4, 0, 0, 0, 0}},
	}
	for _, c := range cases {
		if b, errno := atlas.EncodeChange(c.c); errno != api.OK || !bytes.Equal(b, c.want) {
			t.Errorf("%+v: %X and error %d, and not %X", c.c, b, errno, c.want)
		}
		if got, errno := atlas.DecodeChange(c.want); errno != api.OK || got != c.c {
			t.Errorf("%X: %+v and error %d, and not %+v", c.want, got, errno, c.c)
		}
	}
}

// samples is maps of several kinds.
func samples() []api.Map {
	return []api.Map{
		{Pool: api.Pool{K: 1, M: 1, Pgs: 1}},
		{Epoch: 1 << 20, Pool: api.Pool{K: 20, M: 12, Pgs: 32, Domain: 2}},
		holding(crowd(1)...), holding(crowd(2)...), holding(crowd(7)...), holding(crowd(64)...),
		holding(api.Osd{Id: 999, Up: true, In: true, Weight: topWeight, Life: topTime, Boot: topTime, Host: 999, Rack: 999}),
	}
}

// changeSamples is changes of all kinds.
func changeSamples() []api.Change {
	high := api.Osd{Id: 999, Up: true, In: true, Weight: topWeight, Life: topTime, Boot: topTime, Host: 999, Rack: 999}
	return []api.Change{
		change(api.ChangeAdd, api.Osd{}), change(api.ChangeAdd, high), change(api.ChangeAdd, crowd(9)[8]),
		change(api.ChangeUp, api.Osd{Id: 999, Life: topTime, Boot: topTime}), change(api.ChangeUp, api.Osd{Life: 1, Boot: 1}),
		change(api.ChangeDown, api.Osd{Id: 300}), change(api.ChangeIn, api.Osd{}), change(api.ChangeOut, api.Osd{Id: 999}),
		change(api.ChangeWeight, api.Osd{Id: 5, Weight: topWeight}), change(api.ChangeWeight, api.Osd{}),
	}
}

// At2: bytes that are cut off, at each place, and bytes with others behind them, are
// none.
func TestCutOff(t *testing.T) {
	for _, m := range samples() {
		b := slowNumbers(listed(m)...)
		decodes(t, b, m)
		for i := range b {
			refusesBytes(t, "cut off", b[:i])
		}
		for _, more := range [][]byte{{0}, {1}, {0x80}, {0, 0, 0, 0, 0, 0, 0, 0}, bytes.Repeat([]byte{0x80}, 20), b} {
			refusesBytes(t, "more behind", append(bytes.Clone(b), more...))
		}
	}
	for _, c := range changeSamples() {
		b := slowNumbers(listedChange(c)...)
		for i := range b {
			refusesChangeBytes(t, "cut off", b[:i])
		}
		for _, more := range [][]byte{{0}, {1}, {0x80}, bytes.Repeat([]byte{0x80}, 20), b} {
			refusesChangeBytes(t, "more behind", append(bytes.Clone(b), more...))
		}
	}
	refusesBytes(t, "none", nil)
	refusesBytes(t, "none", []byte{})
	refusesChangeBytes(t, "none", nil)
	refusesChangeBytes(t, "none", []byte{})
}

// spelt is numbers one behind the other, of which the one at that place is spelt by
// other bytes.
func spelt(l []int, at int, as []byte) []byte {
	return slices.Concat(slowNumbers(l[:at]...), as, slowNumbers(l[at+1:]...))
}

// longer is a number with one digit more than it need have.
func longer(n int) []byte {
	b := slowNumber(n)
	b[len(b)-1] += 128
	return append(b, 0)
}

// At2: a number that is longer than it need be lets bytes be none, wherever it is.
func TestLongerNumbers(t *testing.T) {
	for _, m := range samples() {
		l := listed(m)
		for at, n := range l {
			refusesBytes(t, "a longer number", spelt(l, at, longer(n)))
		}
	}
	for _, c := range changeSamples() {
		l := listedChange(c)
		for at, n := range l {
			refusesChangeBytes(t, "a longer number", spelt(l, at, longer(n)))
		}
	}
}

// greater is numbers above all that may be somewhere, the greatest that there are and
// such that are small if their high bits are lost.
func greater() []uint64 {
	return []uint64{1 << 31, 1<<31 + 1, 1 << 32, 1<<32 + 1, 1<<32 + 2, 1 << 33, 1<<63 - 1, 1 << 63, 1<<63 + 1, math.MaxUint64 - 1, math.MaxUint64}
}

// At2: a number that may not be lets bytes be none, wherever it is.
func TestGreaterNumbers(t *testing.T) {
	for _, n := range greater() {
		as := wire.Uvarint(nil, n)
		for _, m := range samples() {
			l := listed(m)
			for at := range l {
				refusesBytes(t, "a great number", spelt(l, at, as))
			}
		}
		for _, c := range changeSamples() {
			l := listedChange(c)
			for at := range l {
				refusesChangeBytes(t, "a great number", spelt(l, at, as))
			}
		}
	}
}

// turned is a list with another number at a place.
func turned(l []int, at, n int) []int {
	l = slices.Clone(l)
	l[at] = n
	return l
}

// decodesAs looks at what Decode tells of any bytes.
func decodesAs(t testing.TB, b []byte) bool {
	t.Helper()
	want, ok := slowDecode(b)
	if !ok {
		refusesBytes(t, "bytes", b)
		return false
	}
	decodes(t, b, want)
	if again, errno := atlas.Encode(want); errno != api.OK || !bytes.Equal(again, b) {
		t.Fatalf("Encode of Decode(%X): %X, error %d", b, again, errno)
	}
	return true
}

// decodesChangeAs looks at what DecodeChange tells of any bytes.
func decodesChangeAs(t testing.TB, b []byte) bool {
	t.Helper()
	want, ok := slowDecodeChange(b)
	if !ok {
		refusesChangeBytes(t, "bytes", b)
		return false
	}
	if got, errno := atlas.DecodeChange(b); errno != api.OK || got != want {
		t.Fatalf("DecodeChange(%X): %+v, error %d, and not %+v", b, got, errno, want)
	}
	if again, errno := atlas.EncodeChange(want); errno != api.OK || !bytes.Equal(again, b) {
		t.Fatalf("EncodeChange of DecodeChange(%X): %X, error %d", b, again, errno)
	}
	return true
}

// At2: each number of a map and of a change, at all edges: true as 2, one OSD more or
// less than is told, Ids that do not rise, a pool that may not be, parts that a change
// may not have.
func TestNumbersAtEdges(t *testing.T) {
	t.Parallel()
	all := []int{0, 1, 2, 3, 4, 5, 6, 7, 8, 15, 16, 31, 32, 33, 62, 63, 64, 65, 127, 128, 998, 999, 1000, 1001, topEpoch - 1, topEpoch, topEpoch + 1, topWeight - 1, topWeight, topWeight + 1, topTime - 1, topTime, topTime + 1, 2*topTime + 1, 2*topTime + 2, 2*topTime + 3}
	right, wrong := 0, 0
	count := func(is bool) {
		if is {
			right++
		} else {
			wrong++
		}
	}
	for _, m := range samples() {
		for at := range listed(m) {
			for _, n := range all {
				count(decodesAs(t, slowNumbers(turned(listed(m), at, n)...)))
			}
		}
	}
	for _, c := range changeSamples() {
		for at := range listedChange(c) {
			for _, n := range all {
				count(decodesChangeAs(t, slowNumbers(turned(listedChange(c), at, n)...)))
			}
		}
	}
	if right < 3000 || wrong < 3000 {
		t.Errorf("%d were right, and %d wrong", right, wrong)
	}
}

// At2: how many OSDs there are is as many as are told, and true is 1.
func TestToldAndThere(t *testing.T) {
	for _, told := range []int{0, 1, 2, 3, 4, 62, 63, 64, 65, 127, 128, 1000, 1 << 30} {
		for _, there := range []int{0, 1, 2, 3, 63, 64, 65} {
			l := turned(listed(holding(crowd(there)...)), 5, told)
			if told == there && there <= 64 {
				decodes(t, slowNumbers(l...), holding(crowd(there)...))
			} else {
				refusesBytes(t, "another count", slowNumbers(l...))
			}
		}
	}
	for _, at := range []int{6 + atUp, 6 + atIn} {
		for n := 2; n < 300; n++ {
			refusesBytes(t, "no truth", slowNumbers(turned(listed(samples()[2]), at, n)...))
		}
	}
	for _, at := range []int{1 + atUp, 1 + atIn} {
		for n := 2; n < 300; n++ {
			refusesChangeBytes(t, "no truth", slowNumbers(turned(listedChange(changeSamples()[1]), at, n)...))
		}
	}
}

// At2: all bytes of few ones, and a map's and a change's with each byte turned into
// each other one.
func TestAnyBytes(t *testing.T) {
	for _, m := range samples() {
		b := slowNumbers(listed(m)...)
		if len(b) > 300 {
			continue
		}
		for i := range b {
			for v := range 256 {
				x := bytes.Clone(b)
				x[i] = byte(v)
				decodesAs(t, x)
			}
			decodesAs(t, slices.Delete(bytes.Clone(b), i, i+1))
			decodesAs(t, slices.Insert(bytes.Clone(b), i, b[i]))
		}
	}
	for _, c := range changeSamples() {
		b := slowNumbers(listedChange(c)...)
		for i := range b {
			for v := range 256 {
				x := bytes.Clone(b)
				x[i] = byte(v)
				decodesChangeAs(t, x)
			}
			decodesChangeAs(t, slices.Delete(bytes.Clone(b), i, i+1))
			decodesChangeAs(t, slices.Insert(bytes.Clone(b), i, b[i]))
		}
	}
	for v := range 1 << 16 {
		decodesAs(t, []byte{byte(v), byte(v >> 8)})
		decodesChangeAs(t, []byte{byte(v), byte(v >> 8)})
	}
}

// R1: many bytes.
func TestManyBytes(t *testing.T) {
	for _, v := range []byte{0, 1, 0x40, 0x80, 0xFF} {
		b := bytes.Repeat([]byte{v}, 1<<20)
		refusesBytes(t, "many", b)
		refusesChangeBytes(t, "many", b)
	}
}

// FuzzBytes looks at any bytes, of a map and of a change.
func FuzzBytes(f *testing.F) {
	for _, m := range samples() {
		f.Add(slowNumbers(listed(m)...))
	}
	for _, c := range changeSamples() {
		f.Add(slowNumbers(listedChange(c)...))
	}
	f.Fuzz(func(t *testing.T, b []byte) {
		decodesAs(t, b)
		decodesChangeAs(t, b)
	})
}
