package name_test

import (
	"hash/fnv"
	"math/big"
	"strings"
	"testing"

	"mooring/api"
	"mooring/name"
)

// turns tells of one text all that Na2 says of Fold and Hash.
func turns(t *testing.T, s string) {
	t.Helper()
	want, wrong := "", api.ErrText
	if _, ok := slowRunes(s); ok {
		want, wrong = slowFold(s), api.OK
	}
	if out, e := name.Fold(s); out != want || e != wrong {
		t.Fatalf("Fold of %q = %q, %d, want %q, %d", s, out, e, want, wrong)
	}
	if n, want := name.Hash(s), slowHash(s); n != want {
		t.Fatalf("Hash of %q = %X, want %X", s, n, want)
	}
}

// slowHash is the hash by the words of the chapter, in numbers without limit.
func slowHash(s string) uint32 {
	all := new(big.Int).Lsh(big.NewInt(1), 32)
	x := big.NewInt(0x811C9DC5)
	by := func(n int64) { x.Mod(x.Mul(x, big.NewInt(n)), all) }
	shifted := func(n uint) { x.Xor(x, new(big.Int).Rsh(x, n)) }
	for _, v := range []byte(s) {
		x.Xor(x, big.NewInt(int64(v)))
		by(0x01000193)
	}
	shifted(16)
	by(0x7FEB352D)
	shifted(15)
	by(0x846CA68B)
	shifted(16)
	return uint32(x.Uint64())
}

// pairs tells of two texts all that Na2 says of Same and Less.
func pairs(t *testing.T, a, b string) {
	t.Helper()
	_, okOne := slowRunes(a)
	_, okOther := slowRunes(b)
	want := okOne && okOther && slowFold(a) == slowFold(b)
	if name.Same(a, b) != want || name.Same(b, a) != want {
		t.Fatalf("Same of %q and %q is not %v", a, b, want)
	}
	if name.Less(a, b) != slowLess(a, b) || name.Less(b, a) != slowLess(b, a) {
		t.Fatalf("Less of %q and %q: %v, %v", a, b, name.Less(a, b), name.Less(b, a))
	}
}

// Na2: Fold and Hash of texts that are UTF-8, and of such as are not.
func TestFoldAndHash(t *testing.T) {
	for _, s := range append(sounds(), spoilt()...) {
		turns(t, s)
	}
}

// Na2: A to Z alone are folded: neither those beside them, nor great letters
// elsewhere, nor what Unicode folds onto them.
func TestFold(t *testing.T) {
	for s, want := range map[string]string{
		"": "", "A": "a", "Z": "z", "a": "a", "z": "z", "@[`{": "@[`{",
		"ABCDEFGHIJKLMNOPQRSTUVWXYZ": "abcdefghijklmnopqrstuvwxyz",
		"Äa b":                       "Äa b", "ÄBc": "Äbc", "ΑΩ": "ΑΩ", "ЖЯ": "ЖЯ", "İI": "İi",
		"\u212A": "\u212A", "\uFF21": "\uFF21", "\U00010400": "\U00010400", "ſ": "ſ", "ẞ": "ẞ",
		"A/B": "a/b", " A ": " a ", "\x00A\x7F": "\x00a\x7F", "A\uFFFDZ": "a\uFFFDz", "Aä€\U0001F600Z": "aä€\U0001F600z",
	} {
		if out, e := name.Fold(s); out != want || e != api.OK {
			t.Errorf("Fold of %q = %q, %d, want %q", s, out, e, want)
		}
	}
	// Fold asks for UTF-8 alone, not for a name that may be.
	if out, e := name.Fold(strings.Repeat("Ä/ A", 100)); out != strings.Repeat("Ä/ a", 100) || e != api.OK {
		t.Errorf("Fold of what may be no name = %q, %d", out, e)
	}
}

// Na2: the fold of every rune that there is.
func TestFoldOfEveryRune(t *testing.T) {
	for n := range 0x110000 {
		if n>>11 == 0xD800>>11 {
			continue
		}
		s := slowText([]int{n})
		want := s
		if n >= 0x41 && n <= 0x5A {
			want = slowText([]int{n + 0x20})
		}
		if out, e := name.Fold(s); out != want || e != api.OK {
			t.Fatalf("Fold of %X = %q, %d", n, out, e)
		}
	}
}

// Na2, R2: ErrText of what is no UTF-8, and nothing beside it.
func TestFoldOfNoText(t *testing.T) {
	for _, s := range spoilt() {
		if out, e := name.Fold(s); out != "" || e != api.ErrText {
			t.Errorf("Fold of %q = %q, %d, want ErrText", s, out, e)
		}
	}
}

// Na2: Same of texts that differ in capitals, and of such as differ otherwise.
func TestSame(t *testing.T) {
	for _, known := range []struct {
		a, b string
		want bool
	}{
		{"", "", true}, {"a", "a", true}, {"a", "A", true}, {"Ab", "aB", true}, {"Z", "z", true},
		{"a/B ", "A/b ", true}, {"Ä", "Ä", true}, {"Äb", "ÄB", true}, {"\uFFFD", "\uFFFD", true},
		{"", "a", false}, {"a", "b", false}, {"a", "aa", false}, {"a", "a ", false},
		{"@", "`", false}, {"[", "{", false}, {"Ä", "ä", false}, {"K", "\u212A", false},
		{"s", "ſ", false}, {"A", "\uFF21", false}, {"\uFF21", "\uFF41", false}, {"Ж", "ж", false}, {"ä", "a\u0308", false},
		{"i", "İ", false}, {"I", "ı", false}, {"\u0041", "\u0141", false}, {"\u0161", "\u0141", false},
	} {
		if name.Same(known.a, known.b) != known.want || name.Same(known.b, known.a) != known.want {
			t.Errorf("Same of %q and %q is not %v", known.a, known.b, known.want)
		}
	}
}

// Na2: what is no UTF-8 is the same as nothing, not even as itself.
func TestSameOfNoText(t *testing.T) {
	for _, s := range spoilt() {
		for _, other := range []string{s, "", "a", "\uFFFD", "\xFF"} {
			if name.Same(s, other) || name.Same(other, s) {
				t.Errorf("%q is the same as %q", s, other)
			}
		}
	}
}

// Na2: Less by runes, without their fold; a beginning is ahead of the whole.
func TestLess(t *testing.T) {
	rising := []string{
		"", "\x00", "\x00\x00", " ", "/", "A", "A\x00", "Aa", "B", "Z", "Za", "[", "a", "aA", "aa", "a€", "b", "z", "\x7F",
		"\u0080", "\u00FF", "\u0100", "\u07FF", "\u0800", "\u0800a", "\u20AC", "\uD7FF", "\uE000", "\uFFFD", "\uFFFF",
		"\U00010000", "\U00010000\x00", "\U0001F600", "\U0010FFFF", "\U0010FFFFa",
	}
	for i, a := range rising {
		for j, b := range rising {
			if name.Less(a, b) != (i < j) {
				t.Errorf("Less of %q and %q is not %v", a, b, i < j)
			}
		}
	}
}

// Na2: Less by bytes, of two of which one is no UTF-8, or both.
func TestLessOfNoText(t *testing.T) {
	rising := []string{
		"", "a", "a\x80", "a\xFF", "b", "\x80", "\x80a", "\xC0\x80", "\u0080", "\xC3", "\u00FF", "\xE2\x82", "€", "\xED\x9F\xBF",
		"\xED\xA0\x80", "\xEF", "\uFFFD", "\xEF\xBF\xBE\xFF", "\U00010000", "\xF4\x8F\xBF", "\U0010FFFF", "\xF4\x90\x80\x80", "\xFE", "\xFF", "\xFFa", "\xFF\xFF",
	}
	for i, a := range rising {
		for j, b := range rising {
			if name.Less(a, b) != (i < j) {
				t.Errorf("Less of %q and %q is not %v", a, b, i < j)
			}
		}
	}
}

// Na2: Same and Less of edge runes, each beside each other one.
func TestSameAndLessOfEdges(t *testing.T) {
	var texts []string
	for _, n := range edgeRunes() {
		r := slowText([]int{n})
		texts = append(texts, r, r+"a", "A"+r, "a"+r)
	}
	texts = append(texts, brokenTexts()...)
	for _, a := range texts {
		for _, b := range texts {
			pairs(t, a, b)
		}
	}
}

// Na2: texts out of a stream: those that are alike for a while, too.
func TestFoldSameAndLessOfMany(t *testing.T) {
	n := numbers(2)
	for range 20000 {
		a, b := madeUp(&n, 6), madeUp(&n, 6)
		turns(t, a)
		pairs(t, a, b)
		pairs(t, a, a+b)
		pairs(t, a+b, a+strings.ToLower(b))
		bytes := anyBytes(&n, 6)
		turns(t, bytes)
		pairs(t, a, bytes)
		pairs(t, bytes, bytes[:n.below(len(bytes)+1)])
		pairs(t, bytes, anyBytes(&n, 6))
	}
}

// Na2: Hash of any bytes: of none, of each one, of such as are no UTF-8, of many.
func TestHash(t *testing.T) {
	known := map[string]uint32{"": 0x74141C20, "a": 0x6C4E37EB, "A": 0xED5DB884, "Äa b": 0xB7F4D2D8, "\x00": 0x261DD870, "\xFF": 0x97B8B2A2, "mooring": 0x712F42F3}
	for s, want := range known {
		if n := name.Hash(s); n != want {
			t.Errorf("Hash of %q = %x, want %x", s, n, want)
		}
	}
	n := numbers(3)
	for v := range 256 {
		turns(t, string([]byte{byte(v)}))
		turns(t, string([]byte{byte(v), 'a', byte(v)}))
		b := make([]byte, v)
		for i := range b {
			b[i] = byte(n.below(256))
		}
		turns(t, string(b))
	}
}

// Na2: what is mixed in the end is FNV-1a's number, as the library tells it.
func TestHashIsMixedInTheEnd(t *testing.T) {
	for _, s := range append(sounds(), spoilt()...) {
		h := fnv.New32a()
		h.Write([]byte(s))
		x := uint64(h.Sum32())
		x = (x ^ x>>16) * 0x7FEB352D % (1 << 32)
		x = (x ^ x>>15) * 0x846CA68B % (1 << 32)
		if n := name.Hash(s); n != uint32(x^x>>16) {
			t.Fatalf("Hash of %q = %X, want %X", s, n, x^x>>16)
		}
	}
}

// Na2: the hash is of the bytes as they are: capitals count, and what is alike
// but for them has another number.
func TestHashIsWithoutFold(t *testing.T) {
	seen := map[uint32]string{}
	for _, s := range []string{"", "a", "A", "ä", "Ä", "a\u0308", "ab", "ba", "aB", "Ab", "a\x00", "\x00a", "\x00", "\x00\x00", "\xFF", "\uFFFD"} {
		if other, ok := seen[name.Hash(s)]; ok {
			t.Errorf("%q and %q have the same hash", s, other)
		}
		seen[name.Hash(s)] = s
	}
}
