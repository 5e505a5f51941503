package store_test

import (
	"bytes"
	"math"
	"slices"
	"strings"
	"testing"

	"mooring/api"
	"mooring/store"
)

// St1: batches written out byte by byte.
func TestEncodeWrittenOut(t *testing.T) {
	cases := []struct {
		l    []api.Act
		want []byte
	}{
		{nil, []byte{0}},
		{[]api.Act{}, []byte{0}},
		{[]api.Act{set("a", "1")}, []byte{1, 1, 'a', 1, 1, '1'}},
		{[]api.Act{set("a", "")}, []byte{1, 1, 'a', 1, 0}},
		{[]api.Act{take("a")}, []byte{1, 1, 'a', 0}},
		{[]api.Act{{Key: "a", Data: []byte{}}}, []byte{1, 1, 'a', 0}},
		{[]api.Act{set("a", "xy"), take("bcd"), set("a", "")}, []byte{3, 1, 'a', 1, 2, 'x', 'y', 3, 'b', 'c', 'd', 0, 1, 'a', 1, 0}},
		{[]api.Act{set("\x00\xFF", "\x00")}, []byte{1, 2, 0, 0xFF, 1, 1, 0}},
		{[]api.Act{set("a", some(300, 1))}, joined([]byte{1, 1, 'a', 1, 0xAC, 2}, []byte(some(300, 1)))},
	}
	for _, c := range cases {
		if b, errno := store.Encode(c.l); errno != api.OK || !bytes.Equal(b, c.want) {
			t.Errorf("%v: %X and error %d, and not %X", c.l, b, errno, c.want)
		}
		if l, errno := store.Decode(c.want); errno != api.OK || !sameActs(l, c.l) {
			t.Errorf("%X: %v and error %d, and not %v", c.want, l, errno, c.l)
		}
	}
}

// many is so many acts, that set a key and take it away in turn.
func many(acts int) []api.Act {
	out := make([]api.Act, acts)
	for i := range out {
		key := "k" + some(1+i/2%5, i/2)
		out[i] = take(key)
		if i%2 == 0 {
			out[i] = set(key, some(i%7, i))
		}
	}
	return out
}

// St1: a batch has at most 256 acts.
func TestHowManyActs(t *testing.T) {
	for _, n := range []int{0, 1, 2, 127, 128, 129, 255, 256, 257, 258, 512, 10000} {
		want := api.OK
		if n > 256 {
			want = api.ErrArg
		}
		if b, errno := store.Encode(many(n)); errno != want || errno != api.OK && len(b) != 0 {
			t.Errorf("%d acts: error %d, and not %d", n, errno, want)
		}
		encodes(t, many(n))
	}
}

// St1: a key has 1 to 64 bytes, whatever they are, and a value at most 4096; at
// each place of a batch.
func TestHowManyBytes(t *testing.T) {
	cases := []struct {
		key, value int
		want       api.Errno
	}{
		{0, 0, api.ErrArg}, {1, 0, api.OK}, {2, 1, api.OK}, {63, 0, api.OK}, {64, 0, api.OK}, {65, 0, api.ErrArg}, {128, 0, api.ErrArg},
		{1, 4095, api.OK}, {1, 4096, api.OK}, {1, 4097, api.ErrArg}, {64, 4096, api.OK}, {65, 4096, api.ErrArg}, {64, 4097, api.ErrArg},
		{0, 4096, api.ErrArg}, {0, 4097, api.ErrArg}, {1, longest, api.ErrArg}, {1, 1 << 20, api.ErrArg}, {1 << 20, 1, api.ErrArg},
	}
	for _, c := range cases {
		for at := range 3 {
			l := []api.Act{set("a", "1"), take("b"), set("c", "3")}
			l[at] = set(some(c.key, 1), some(c.value, 2))
			if b, errno := store.Encode(l); errno != c.want || errno != api.OK && len(b) != 0 {
				t.Errorf("%+v at %d: error %d", c, at, errno)
			}
			encodes(t, l)
			if c.value > 0 {
				continue
			}
			l[at] = take(some(c.key, 1))
			if _, errno := store.Encode(l); errno != c.want {
				t.Errorf("%+v taken away at %d: error %d", c, at, errno)
			}
			encodes(t, l)
		}
	}
}

// St1: 64 are bytes, and not runes.
func TestKeysAreBytes(t *testing.T) {
	encodes(t, []api.Act{set(strings.Repeat("€", 21), "1")})
	l := []api.Act{set(strings.Repeat("€", 22), "1")}
	if _, errno := store.Encode(l); errno != api.ErrArg {
		t.Errorf("22 runes, 66 bytes: error %d", errno)
	}
	encodes(t, l)
	for v := range 256 {
		encodes(t, []api.Act{set(string([]byte{byte(v)}), string([]byte{byte(v), byte(v)})), take(string([]byte{byte(v), 0, byte(v)}))})
	}
}

// St1: an act that takes a key away has no data.
func TestTakeHasNoData(t *testing.T) {
	for _, n := range []int{1, 2, 4096, 4097} {
		for at := range 3 {
			l := []api.Act{set("a", "1"), take("b"), set("c", "3")}
			l[at] = api.Act{Key: "d", Data: []byte(some(n, 1))}
			if b, errno := store.Encode(l); errno != api.ErrArg || len(b) != 0 {
				t.Errorf("%d bytes of data at %d: %X and error %d", n, at, b, errno)
			}
		}
	}
}

// St1: a batch of just as many bytes as layer 8 takes, and of more; what is no
// batch is ErrArg, however long.
func TestHowLong(t *testing.T) {
	for size, want := range map[int]api.Errno{
		longest - 52: api.OK, longest - 51: api.OK, longest - 1: api.OK, longest: api.OK,
		longest + 1: api.ErrLong, longest + 2: api.ErrLong, longest + 51: api.ErrLong, 2 * longest: api.ErrLong,
	} {
		l := sized(t, size, size)
		b, errno := store.Encode(l)
		if errno != want || errno == api.OK && len(b) != size || errno != api.OK && len(b) != 0 {
			t.Errorf("%d bytes: %d bytes and error %d", size, len(b), errno)
		}
		encodes(t, l)
		if want == api.ErrLong {
			refusesBytes(t, "too long", slowEncode(l))
		}
		if _, errno := store.Encode(append(l, take(""))); errno != api.ErrArg {
			t.Errorf("%d bytes and no key: error %d", size, errno)
		}
	}
	most := make([]api.Act, 256)
	for i := range most {
		most[i] = set(some(64, i), some(4096, i))
	}
	if b, errno := store.Encode(most); errno != api.ErrLong || len(b) != 0 {
		t.Errorf("the longest batch: %d bytes and error %d", len(b), errno)
	}
}

// St1: many batches of many acts.
func TestManyBatches(t *testing.T) {
	n, good := numbers(3), 0
	for range 2000 {
		var l []api.Act
		for range n.below(40) {
			a := set(some(1+n.below(64), n.below(99)), some(n.below(400), n.below(99)))
			if n.below(3) == 0 {
				a = take(a.Key)
			}
			switch n.below(600) {
			case 0:
				a.Key = ""
			case 1:
				a.Key = some(65, 1)
			case 2:
				a.Set, a.Data = false, []byte{0}
			case 3:
				a = set("v", some(4097, 1))
			}
			l = append(l, a)
		}
		encodes(t, l)
		if slowWrong(l) == api.OK {
			good++
		}
	}
	if good < 1000 || good == 2000 {
		t.Errorf("%d of 2000 are batches", good)
	}
}

// St1: bytes of batches that are cut short, or have more behind.
func TestDecodeCutAndLong(t *testing.T) {
	for _, l := range [][]api.Act{nil, {set("a", "1")}, {take("a")}, {set("a", some(130, 1)), take("b"), set("cd", "")}, many(130)} {
		b := slowEncode(l)
		for n := range len(b) {
			if n < 200 || n > len(b)-200 {
				refusesBytes(t, "cut", b[:n])
			}
		}
		for _, more := range [][]byte{{0}, {1}, {1, 'a', 0}, b, make([]byte, longest)} {
			refusesBytes(t, "more", joined(b, more))
		}
	}
	refusesBytes(t, "nothing", nil)
	refusesBytes(t, "nothing", []byte{})
	refusesBytes(t, "much too long", make([]byte, 1<<20))
	refusesBytes(t, "a batch, and much behind", joined([]byte{0}, make([]byte, 1<<20)))
}

// St1: bytes that are nearly a batch's, each wrong in one thing.
func TestDecodeWrong(t *testing.T) {
	wrongs := map[string][]byte{
		"count too long":         {0x80, 0},
		"count 1 too long":       {0x81, 0, 1, 'a', 0},
		"count too great":        {2, 1, 'a', 0},
		"count too small":        {0, 1, 'a', 0},
		"count of 1, two acts":   {1, 1, 'a', 0, 1, 'b', 0},
		"count without end":      bytes.Repeat([]byte{0x80}, 12),
		"count beyond all":       {0xFF, 0xFF, 0xFF, 0xFF, 0xFF, 0xFF, 0xFF, 0xFF, 0xFF, 1},
		"count of 64 bits more":  {0xFF, 0xFF, 0xFF, 0xFF, 0xFF, 0xFF, 0xFF, 0xFF, 0xFF, 2},
		"no key":                 {1, 0, 0},
		"no key set":             {1, 0, 1, 1, 'x'},
		"no key behind another":  {2, 1, 'a', 0, 0, 0},
		"key's length too long":  {1, 0x81, 0, 'a', 0},
		"key's length beyond":    {1, 0xFF, 0xFF, 0xFF, 0xFF, 0xFF, 0xFF, 0xFF, 0xFF, 0xFF, 1, 'a', 0},
		"key cut":                {1, 3, 'a', 'b'},
		"mark 2":                 {1, 1, 'a', 2},
		"mark 2 and a value":     {1, 1, 'a', 2, 1, 'x'},
		"mark 127":               {1, 1, 'a', 127, 0},
		"mark 128":               {1, 1, 'a', 0x80, 1, 0},
		"mark 255":               {1, 1, 'a', 0xFF, 1, 0},
		"mark 256":               {1, 1, 'a', 0x80, 2, 0},
		"mark 257":               {1, 1, 'a', 0x81, 2, 0},
		"mark 0 too long":        {1, 1, 'a', 0x80, 0},
		"mark 1 too long":        {1, 1, 'a', 0x81, 0, 0},
		"no mark":                {1, 1, 'a'},
		"no value":               {1, 1, 'a', 1},
		"value cut":              {1, 1, 'a', 1, 2, 'x'},
		"value's length, long":   {1, 1, 'a', 1, 0x81, 0, 'x'},
		"value 0, long":          {1, 1, 'a', 1, 0x80, 0},
		"value's length, beyond": {1, 1, 'a', 1, 0xFF, 0xFF, 0xFF, 0xFF, 0xFF, 0xFF, 0xFF, 0xFF, 0xFF, 1, 'x'},
		"a taken key's value":    {1, 1, 'a', 0, 1, 'x'},
		"a taken key's no value": {1, 1, 'a', 0, 0},
		"257 acts":               slowEncode(many(257)),
		"65 bytes of a key":      slowEncode([]api.Act{take(some(65, 1))}),
		"65 bytes of a set key":  slowEncode([]api.Act{set(some(65, 1), "x")}),
		"4097 bytes of a value":  slowEncode([]api.Act{set("a", some(4097, 1))}),
		"much of a value":        slowEncode([]api.Act{set("a", some(longest-6, 1))}),
	}
	for what, b := range wrongs {
		refusesBytes(t, what, b)
	}
	for count := range 300 {
		b := joined(slowNumber(count), slowEncode(many(200))[2:])
		if ok := decodes(t, b); ok != (count == 200) {
			t.Errorf("count %d of 200 acts: %v", count, ok)
		}
	}
	for v := range 256 {
		if ok := decodes(t, []byte{1, 1, 'a', byte(v)}); ok != (v == 0) {
			t.Errorf("mark %d, nothing behind it: %v", v, ok)
		}
		if ok := decodes(t, []byte{1, 1, 'a', byte(v), 0}); ok != (v == 1) {
			t.Errorf("mark %d, 0 behind it: %v", v, ok)
		}
	}
}

// St1: what is at the limits is read.
func TestDecodeAtTheLimits(t *testing.T) {
	for _, l := range [][]api.Act{
		many(256), {take(some(64, 1))}, {set(some(64, 1), some(4096, 1))}, sized(t, longest, 1),
	} {
		if !decodes(t, slowEncode(l)) {
			t.Errorf("%d acts, %d bytes: refused", len(l), len(slowEncode(l)))
		}
	}
}

// St1: all lists of two bytes, and all pairs of bytes at each place of a short
// batch; and all lists of six out of the bytes that matter.
func TestDecodeAllShort(t *testing.T) {
	for n := range 1 << 16 {
		decodes(t, []byte{byte(n), byte(n >> 8)})
		decodes(t, []byte{byte(n), byte(n >> 8), 0})
		decodes(t, []byte{1, byte(n), byte(n >> 8), 0})
		decodes(t, []byte{1, 1, byte(n), byte(n >> 8)})
		decodes(t, []byte{1, 1, 'a', byte(n), byte(n >> 8)})
		decodes(t, []byte{1, 1, 'a', 1, byte(n), byte(n >> 8)})
	}
	few := []byte{0, 1, 2, 3, 64, 0x80, 0x81}
	for n := range int(math.Pow(7, 6)) {
		b := make([]byte, 0, 6)
		for v := n; len(b) < 6; v /= 7 {
			b = append(b, few[v%7])
		}
		decodes(t, b)
	}
}

// St1: batches' bytes with one of them turned, taken out or put in.
func TestDecodeTurned(t *testing.T) {
	n := numbers(8)
	good := 0
	for range 20000 {
		b := slowEncode(n.batch(nil))
		for range 1 + n.below(2) {
			at := n.below(len(b) + 1)
			switch {
			case n.below(3) == 0:
				b = slices.Insert(b, at, byte(n.below(256))>>n.below(8))
			case at < len(b) && n.below(2) == 0:
				b = slices.Delete(b, at, at+1)
			case at < len(b):
				b[at] ^= 1 << n.below(8)
			}
		}
		if decodes(t, b) {
			good++
		}
	}
	if good < 500 || good > 19500 {
		t.Errorf("%d of 20000 are batches' bytes", good)
	}
}

// St1: any bytes.
func FuzzDecode(f *testing.F) {
	f.Add([]byte{0})
	f.Add(slowEncode([]api.Act{set("a", "1"), take("a"), set("b", some(130, 1))}))
	f.Add([]byte{1, 1, 'a', 0x81, 0, 0})
	f.Fuzz(func(t *testing.T, b []byte) { decodes(t, b) })
}

func BenchmarkEncode(b *testing.B) {
	l := many(256)
	for b.Loop() {
		store.Encode(l)
	}
}

func BenchmarkDecode(b *testing.B) {
	in := slowEncode(many(256))
	b.SetBytes(int64(len(in)))
	for b.Loop() {
		store.Decode(in)
	}
}
