package name_test

import (
	"math"
	"strings"
	"testing"

	"mooring/api"
	"mooring/name"
)

// The chapter's examples.
func TestExamples(t *testing.T) {
	if n, ok := name.Count("Äa b"); n != 4 || !ok {
		t.Errorf("Count = %d, %v, want 4, true", n, ok)
	}
	if s, e := name.Fold("Äa b"); s != "Äa b" || e != api.OK {
		t.Errorf("Fold = %q, %d, want the same", s, e)
	}
	if e := name.Check("a/b"); e != api.ErrArg {
		t.Errorf("Check of a/b = %d, want ErrArg", e)
	}
	if e := name.Check("\xff"); e != api.ErrText {
		t.Errorf("Check of FF = %d, want ErrText", e)
	}
	if n := name.Hash(""); n != 0x74141c20 {
		t.Errorf("Hash of nothing = %x, want 74141c20", n)
	}
}

// holds tells of one text all that Na1 says of Count and Check.
func holds(t *testing.T, s string) {
	t.Helper()
	runes, ok := slowRunes(s)
	if n, is := name.Count(s); n != len(runes) || is != ok {
		t.Fatalf("Count of %q = %d, %v, want %d, %v", s, n, is, len(runes), ok)
	}
	if e, want := name.Check(s), slowCheck(s); e != want {
		t.Fatalf("Check of %q = %d, want %d", s, e, want)
	}
}

// Na1: Count and Check of texts that are UTF-8, and of such as are not.
func TestCountAndCheck(t *testing.T) {
	for _, s := range append(sounds(), spoilt()...) {
		holds(t, s)
	}
}

// Na1: Count of how many, of runes of one, two, three and four bytes; 0 and
// false of what is no UTF-8.
func TestCount(t *testing.T) {
	for s, want := range map[string]int{"": 0, "a": 1, "ä": 1, "€": 1, "\U0001F600": 1, "aä€\U0001F600": 4, "\uFFFD": 1, "\x00": 1, "a\u0308": 2, "\uFEFFa": 2} {
		if n, ok := name.Count(s); n != want || !ok {
			t.Errorf("Count of %q = %d, %v, want %d, true", s, n, ok, want)
		}
	}
	for _, s := range spoilt() {
		if n, ok := name.Count(s); n != 0 || ok {
			t.Errorf("Count of %q = %d, %v, want 0, false", s, n, ok)
		}
	}
	if n, ok := name.Count(strings.Repeat("€", 1<<16)); n != 1<<16 || !ok {
		t.Errorf("Count of many = %d, %v", n, ok)
	}
}

// Na1: every rune that there is, alone, first, in between and last.
func TestEveryRune(t *testing.T) {
	for n := range 0x110000 {
		if n>>11 == 0xD800>>11 {
			continue
		}
		r := slowText([]int{n})
		for _, s := range []string{r, r + "a", "a" + r + "a", "a" + r} {
			holds(t, s)
		}
	}
}

// Na1: all texts of one and two bytes, and of three and four such as come near
// UTF-8.
func TestFewBytes(t *testing.T) {
	for one := range 256 {
		holds(t, string([]byte{byte(one)}))
		for other := range 256 {
			holds(t, string([]byte{byte(one), byte(other)}))
		}
	}
	edges := edgeBytes()
	for _, a := range edges {
		for _, b := range edges {
			for _, c := range edges {
				holds(t, string([]byte{a, b, c}))
				for _, d := range edges {
					holds(t, string([]byte{a, b, c, d}))
				}
			}
		}
	}
}

// Na1: the runes that may not be, and those beside them that may.
func TestCheckOfRunes(t *testing.T) {
	for _, known := range []struct {
		r    rune
		want api.Errno
	}{
		{0x00, api.ErrArg}, {0x09, api.ErrArg}, {0x0A, api.ErrArg}, {0x1F, api.ErrArg},
		{0x20, api.OK}, {0x21, api.OK}, {0x2E, api.OK}, {0x2F, api.ErrArg}, {0x30, api.OK},
		{0x5C, api.OK}, {0x7E, api.OK}, {0x7F, api.ErrArg}, {0x80, api.OK}, {0x9F, api.OK},
		{0xA0, api.OK}, {0x2028, api.OK}, {0x2215, api.OK}, {0x3000, api.OK}, {0xFFFC, api.OK},
		{0xFFFD, api.ErrArg}, {0xFFFE, api.OK}, {0xFFFF, api.OK}, {0x1FFFD, api.OK}, {0x10FFFF, api.OK},
	} {
		if e := name.Check("a" + string(known.r) + "b"); e != known.want {
			t.Errorf("Check of a, %X, b = %d, want %d", known.r, e, known.want)
		}
		if known.r == ' ' {
			continue
		}
		for _, s := range []string{string(known.r), string(known.r) + "a", "a" + string(known.r)} {
			if e := name.Check(s); e != known.want {
				t.Errorf("Check of %q = %d, want %d", s, e, known.want)
			}
		}
	}
}

// Na1: a blank may stand in between, and no blank of other kinds is one.
func TestCheckOfBlanks(t *testing.T) {
	for s, want := range map[string]api.Errno{
		" ": api.ErrArg, "  ": api.ErrArg, " a": api.ErrArg, "a ": api.ErrArg, " a ": api.ErrArg, "  a": api.ErrArg, "ä ": api.ErrArg, " \U0001F600": api.ErrArg,
		"a b": api.OK, "a  b": api.OK, "ä €": api.OK, "a b c": api.OK, "\u00A0": api.OK, "\u3000a\u2003": api.OK,
	} {
		if e := name.Check(s); e != want {
			t.Errorf("Check of %q = %d, want %d", s, e, want)
		}
	}
}

// Na1: names of no rune, of one, of 64 and of 65, of few and of many bytes each.
func TestCheckOfLengths(t *testing.T) {
	if e := name.Check(""); e != api.ErrArg {
		t.Errorf("Check of nothing = %d, want ErrArg", e)
	}
	for _, r := range []string{"a", "Z", "ä", "€", "\U0001F600"} {
		for _, n := range []int{1, 2, 63, 64} {
			if e := name.Check(strings.Repeat(r, n)); e != api.OK {
				t.Errorf("Check of %d times %q = %d, want OK", n, r, e)
			}
		}
		for _, n := range []int{65, 66, 128, 256, 5000} {
			if e := name.Check(strings.Repeat(r, n)); e != api.ErrLong {
				t.Errorf("Check of %d times %q = %d, want ErrLong", n, r, e)
			}
		}
	}
}

// Na1, R2: of several things that are wrong the first one is told: ErrText,
// ErrLong, ErrArg.
func TestCheckTellsTheFirst(t *testing.T) {
	for _, bad := range []string{"/", " ", "\x00", "\x7F", "\uFFFD"} {
		if e := name.Check(strings.Repeat(bad, 64)); e != api.ErrArg {
			t.Errorf("Check of 64 times %q = %d, want ErrArg", bad, e)
		}
		for _, s := range []string{strings.Repeat(bad, 65), bad + strings.Repeat("a", 64), strings.Repeat("ä", 64) + bad} {
			if e := name.Check(s); e != api.ErrLong {
				t.Errorf("Check of %q = %d, want ErrLong", s, e)
			}
			for _, broken := range brokenTexts() {
				for _, s := range []string{broken + s, s + broken, bad + broken + s} {
					if e := name.Check(s); e != api.ErrText {
						t.Errorf("Check of %q = %d, want ErrText", s, e)
					}
				}
			}
		}
		for _, s := range []string{"\xFF" + bad, bad + "\xFF"} {
			if e := name.Check(s); e != api.ErrText {
				t.Errorf("Check of %q = %d, want ErrText", s, e)
			}
		}
	}
}

// counts are how many runes are asked for of a text that has so many.
func counts(have int) []int {
	return []int{0, 1, 2, 3, have - 1, have, have + 1, have + 2, 1 << 31, 1 << 32, math.MaxInt - 1, math.MaxInt}
}

// Na1: Head is the first n runes, all if there are no more.
func TestHead(t *testing.T) {
	for _, s := range sounds() {
		runes, _ := slowRunes(s)
		for _, n := range counts(len(runes)) {
			if n < 0 {
				continue
			}
			want := slowText(runes[:min(n, len(runes))])
			if out, e := name.Head(s, n); out != want || e != api.OK {
				t.Fatalf("Head of %q, %d = %q, %d, want %q", s, n, out, e, want)
			}
		}
	}
}

// Na1: Head of runes of one to four bytes, one more each time.
func TestHeadByHead(t *testing.T) {
	for n, want := range []string{"", "a", "aä", "aä€", "aä€\U0001F600", "aä€\U0001F600\uFFFD", "aä€\U0001F600\uFFFD/", "aä€\U0001F600\uFFFD/"} {
		if out, e := name.Head("aä€\U0001F600\uFFFD/", n); out != want || e != api.OK {
			t.Errorf("Head of %d = %q, %d, want %q", n, out, e, want)
		}
	}
}

// Na1, R2: ErrText first, then ErrArg of n below 0; nothing beside them.
func TestHeadOfWrongThings(t *testing.T) {
	for _, n := range []int{-1, -2, -64, -1 << 31, math.MinInt + 1, math.MinInt} {
		for _, s := range []string{"", "a", "€uro", "a/b", strings.Repeat("ä", 65)} {
			if out, e := name.Head(s, n); out != "" || e != api.ErrArg {
				t.Errorf("Head of %q, %d = %q, %d, want ErrArg", s, n, out, e)
			}
		}
	}
	// What is wrong may stand behind what is asked for.
	for _, s := range spoilt() {
		for _, n := range []int{math.MinInt, -1, 0, 1, 2, 64, math.MaxInt} {
			if out, e := name.Head(s, n); out != "" || e != api.ErrText {
				t.Fatalf("Head of %q, %d = %q, %d, want ErrText", s, n, out, e)
			}
		}
	}
}

// Na1: texts out of a stream.
func TestCountCheckAndHeadOfMany(t *testing.T) {
	n := numbers(1)
	for range 20000 {
		s := madeUp(&n, 70)
		holds(t, s)
		runes, _ := slowRunes(s)
		most := n.below(80)
		if out, e := name.Head(s, most); out != slowText(runes[:min(most, len(runes))]) || e != api.OK {
			t.Fatalf("Head of %q, %d = %q, %d", s, most, out, e)
		}
		holds(t, anyBytes(&n, 8))
	}
}

// Na1, Na2: the same of bytes that go test -fuzz chooses.
func FuzzTexts(f *testing.F) {
	f.Add("Äa b", "a/b", 2)
	f.Add("\xEF\xBF", "\uFFFD", -1)
	f.Fuzz(func(t *testing.T, a, b string, n int) {
		holds(t, a)
		turns(t, a)
		pairs(t, a, b)
		follows(t, a, n, n/2)
	})
}
