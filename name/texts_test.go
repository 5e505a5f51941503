package name_test

import (
	"strings"
	"testing"

	"mooring/api"
)

// slowRunes is a text's runes, reckoned bit by bit; false: it is no UTF-8. It
// uses neither the package nor the language's way through a text.
func slowRunes(s string) ([]int, bool) {
	var out []int
	for at := 0; at < len(s); {
		size := slowSize(s[at])
		if size == 0 || at+size > len(s) {
			return nil, false
		}
		n := int(s[at])
		if size > 1 {
			n &= 1<<(7-size) - 1
		}
		for _, v := range []byte(s[at+1 : at+size]) {
			if v>>6 != 2 {
				return nil, false
			}
			n = n<<6 | int(v&63)
		}
		// A form that is too long, a surrogate, or beyond the last rune.
		if n < []int{0, 0, 0x80, 0x800, 0x10000}[size] || n>>11 == 0xD800>>11 || n > 0x10FFFF {
			return nil, false
		}
		out = append(out, n)
		at += size
	}
	return out, true
}

// slowSize is how many bytes a rune has that begins with one; 0: none does.
func slowSize(v byte) int {
	switch {
	case v>>7 == 0:
		return 1
	case v>>5 == 0b110:
		return 2
	case v>>4 == 0b1110:
		return 3
	case v>>3 == 0b11110:
		return 4
	}
	return 0
}

// slowText is the text of runes that may be in one.
func slowText(runes []int) string {
	var out []byte
	for _, n := range runes {
		switch {
		case n < 0x80:
			out = append(out, byte(n))
		case n < 0x800:
			out = append(out, byte(0xC0|n>>6), follow(n))
		case n < 0x10000:
			out = append(out, byte(0xE0|n>>12), follow(n>>6), follow(n))
		default:
			out = append(out, byte(0xF0|n>>18), follow(n>>12), follow(n>>6), follow(n))
		}
	}
	return string(out)
}

// follow is a following byte, of a number's lowest bits.
func follow(n int) byte { return byte(0x80 | n&63) }

// slowCheck is what the chapter's words say of a name.
func slowCheck(s string) api.Errno {
	runes, ok := slowRunes(s)
	if !ok {
		return api.ErrText
	}
	if len(runes) > 64 {
		return api.ErrLong
	}
	if len(runes) == 0 || runes[0] == 0x20 || runes[len(runes)-1] == 0x20 {
		return api.ErrArg
	}
	for _, n := range runes {
		if n < 0x20 || n == 0x7F || n == 0x2F || n == 0xFFFD {
			return api.ErrArg
		}
	}
	return api.OK
}

// slowFold is each rune's fold, of what is UTF-8.
func slowFold(s string) string {
	runes, _ := slowRunes(s)
	for i, n := range runes {
		if at := strings.IndexByte("ABCDEFGHIJKLMNOPQRSTUVWXYZ", byte(n)); n < 0x80 && at >= 0 {
			runes[i] = int("abcdefghijklmnopqrstuvwxyz"[at])
		}
	}
	return slowText(runes)
}

// slowLess tells what the chapter's words say of two texts: by runes, and by
// bytes if one of them is no UTF-8.
func slowLess(a, b string) bool {
	one, okOne := slowRunes(a)
	other, okOther := slowRunes(b)
	if !okOne || !okOther {
		one, other = bytesOf(a), bytesOf(b)
	}
	for i := range min(len(one), len(other)) {
		if one[i] != other[i] {
			return one[i] < other[i]
		}
	}
	return len(one) < len(other)
}

// bytesOf is a text's bytes, as numbers.
func bytesOf(s string) []int {
	out := make([]int, len(s))
	for i := range out {
		out[i] = int(s[i])
	}
	return out
}

// numbers is a stream of numbers, the same in every run.
type numbers uint64

// below is the next number, of those below another one.
func (n *numbers) below(top int) int {
	*n = *n*6364136223846793005 + 1442695040888963407
	return int(uint64(*n) >> 33 % uint64(top))
}

// edgeRunes are the runes at which something turns: what may be in a name, what
// is folded, how many bytes there are.
func edgeRunes() []int {
	return []int{
		0, 1, 0x1F, 0x20, 0x21, 0x2E, 0x2F, 0x30, 0x40, 0x41, 0x42, 0x59, 0x5A, 0x5B,
		0x60, 0x61, 0x62, 0x7A, 0x7B, 0x7E, 0x7F, 0x80, 0x9F, 0xA0, 0xC4, 0xE4, 0x130, 0x131,
		0x391, 0x7FF, 0x800, 0x20AC, 0x212A, 0x3000, 0xD7FF, 0xE000, 0xFEFF, 0xFF21, 0xFF3A,
		0xFFFC, 0xFFFD, 0xFFFE, 0xFFFF, 0x10000, 0x10400, 0x1F600, 0x10FFFD, 0x10FFFF,
	}
}

// brokenTexts are bytes that are no UTF-8: wherever they stand, unless what is
// behind them goes on with a cut rune.
func brokenTexts() []string {
	return []string{
		"\x80", "\xBF", // a lone following byte
		"\xC2", "\xDF", "\xE0", "\xE0\xA0", "\xE2\x82", "\xEF", "\xEF\xBF", // a cut rune
		"\xF0", "\xF0\x90", "\xF0\x90\x80", "\xF4\x8F\xBF",
		"\xC0\x80", "\xC0\xAF", "\xC1\xBF", "\xE0\x80\x80", "\xE0\x9F\xBF", // too long a form
		"\xF0\x80\x80\x80", "\xF0\x8F\xBF\xBF", "\xF8\x88\x80\x80\x80", "\xFC\x84\x80\x80\x80\x80",
		"\xED\xA0\x80", "\xED\xAF\xBF", "\xED\xB0\x80", "\xED\xBF\xBF", // a surrogate
		"\xED\xA0\x80\xED\xB0\x80",
		"\xF4\x90\x80\x80", "\xF5\x80\x80\x80", "\xF7\xBF\xBF\xBF", // above the last rune
		"\xFE", "\xFF", "\xFF\xFF",
	}
}

// spoilt are texts that are no UTF-8: broken bytes at the beginning, in between
// and at the end of others.
func spoilt() []string {
	var out []string
	for _, bad := range brokenTexts() {
		for _, s := range []string{"", "a", "€", "\U0001F600", "a/b", "\uFFFD", strings.Repeat("ä", 64)} {
			out = append(out, bad+s, s+bad, s+bad+s, s+bad+"a")
		}
	}
	return out
}

// sounds are texts that are UTF-8, of many kinds.
func sounds() []string {
	out := []string{"", "a", "Äa b", "a/b", "€uro", " ", "  ", "Straße", "İI", "\x00"}
	for _, one := range edgeRunes() {
		out = append(out, slowText([]int{one}))
		for _, other := range edgeRunes() {
			out = append(out, slowText([]int{one, other}), slowText([]int{0x41, one, other, 0x5A}))
		}
		for _, n := range []int{2, 63, 64, 65, 66, 200} {
			out = append(out, strings.Repeat(slowText([]int{one}), n))
		}
	}
	return out
}

// madeUp is a text of edge runes out of a stream.
func madeUp(n *numbers, most int) string {
	runes := make([]int, n.below(most+1))
	for i := range runes {
		runes[i] = edgeRunes()[n.below(len(edgeRunes()))]
		if n.below(2) == 0 {
			runes[i] = 0x41 + n.below(58)
		}
	}
	return slowText(runes)
}

// anyBytes is a text out of a stream, of bytes that are likely to come near
// UTF-8.
func anyBytes(n *numbers, most int) string {
	edges := edgeBytes()
	out := make([]byte, n.below(most+1))
	for i := range out {
		out[i] = edges[n.below(len(edges))]
	}
	return string(out)
}

// edgeBytes are the bytes at which something turns.
func edgeBytes() []byte {
	return []byte{
		0x00, 0x20, 0x2F, 0x41, 0x61, 0x7F, 0x80, 0x8F, 0x90, 0x9F, 0xA0, 0xBD, 0xBE, 0xBF,
		0xC0, 0xC1, 0xC2, 0xDF, 0xE0, 0xE1, 0xED, 0xEE, 0xEF, 0xF0, 0xF1, 0xF4, 0xF5, 0xFF,
	}
}

// What the tests hold the package against is right itself.
func TestSlowRunes(t *testing.T) {
	for n := range 0x110000 {
		if n>>11 == 0xD800>>11 {
			continue
		}
		if runes, ok := slowRunes(slowText([]int{n})); len(runes) != 1 || runes[0] != n || !ok {
			t.Fatalf("%X is reckoned as %X, %v", n, runes, ok)
		}
	}
	for _, s := range spoilt() {
		if _, ok := slowRunes(s); ok {
			t.Errorf("%q is reckoned as UTF-8", s)
		}
	}
}
