package name_test

import (
	"math"
	"strings"
	"testing"
	"unsafe"

	"mooring/api"
	"mooring/name"
)

// follows tells of one text, and of two numbers of runes, all that Na3 says.
func follows(t *testing.T, s string, n, m int) {
	t.Helper()
	fold, wrong := name.Fold(s)
	if wrong != api.OK {
		if e := name.Check(s); e != api.ErrText {
			t.Fatalf("%q: Fold tells %d, Check %d", s, wrong, e)
		}
		return
	}
	if again, e := name.Fold(fold); again != fold || e != api.OK {
		t.Fatalf("%q: Fold of %q = %q, %d", s, fold, again, e)
	}
	if one, other := name.Check(s), name.Check(fold); one != other {
		t.Fatalf("Check of %q = %d, of its Fold %d", s, one, other)
	}
	if !name.Same(s, fold) {
		t.Fatalf("%q is not the same as its Fold", s)
	}
	if n < 0 || m < 0 {
		return
	}
	first, e := name.Head(s, n)
	if e != api.OK {
		t.Fatalf("Head of %q, %d tells %d", s, n, e)
	}
	one, e := name.Head(first, m)
	other, wrong := name.Head(s, min(n, m))
	if one != other || e != api.OK || wrong != api.OK {
		t.Fatalf("%q: Head of Head = %q, %d, the Head of fewer %q, %d", s, one, e, other, wrong)
	}
	if part, _ := name.Head(fold, n); !name.Same(first, part) || slowFold(first) != part {
		t.Fatalf("%q: Head of Fold = %q, Fold of Head %q", s, part, slowFold(first))
	}
}

// Na3: of texts of many kinds.
func TestWhatFollows(t *testing.T) {
	for _, s := range append(sounds(), spoilt()...) {
		for _, n := range []int{0, 1, 2, 64, math.MaxInt} {
			for _, m := range []int{0, 1, 3, 64, 65, math.MaxInt} {
				follows(t, s, n, m)
			}
		}
	}
}

// Na3: of texts out of a stream.
func TestWhatFollowsOfMany(t *testing.T) {
	n := numbers(4)
	for range 20000 {
		follows(t, madeUp(&n, 70), n.below(75), n.below(75))
		follows(t, anyBytes(&n, 6), n.below(8), n.below(8))
	}
}

// Na3: names that may be, and such as may not, with capitals in them.
func TestFoldMayBeJustIfTheNameMay(t *testing.T) {
	for s, want := range map[string]bool{
		"A": true, "A B": true, strings.Repeat("Z", 64): true, "ÄÖ": true,
		"": false, "A/B": false, " A": false, "A ": false, "A\x7F": false, "A\uFFFD": false, strings.Repeat("Z", 65): false,
	} {
		fold, e := name.Fold(s)
		if may := name.Check(fold) == api.OK; e != api.OK || may != want || (name.Check(s) == api.OK) != want {
			t.Errorf("%q: Check %d, of its Fold %d", s, name.Check(s), name.Check(fold))
		}
	}
}

// shares tells whether an answer's bytes lie in a text's.
func shares(out, s string) bool {
	if out == "" || s == "" {
		return false
	}
	at := uintptr(unsafe.Pointer(unsafe.StringData(out)))
	from := uintptr(unsafe.Pointer(unsafe.StringData(s)))
	return at < from+uintptr(len(s)) && from < at+uintptr(len(out))
}

// R3: the answers are new memory, where nothing is cut off or folded, too.
func TestAnswersAreNewMemory(t *testing.T) {
	for _, s := range sounds() {
		if len(s) == 0 {
			continue
		}
		fold, _ := name.Fold(s)
		again, _ := name.Fold(fold)
		if shares(fold, s) || shares(again, fold) {
			t.Fatalf("Fold of %q shares its memory", s)
		}
		for _, n := range []int{1, 2, math.MaxInt} {
			if head, _ := name.Head(s, n); shares(head, s) {
				t.Fatalf("Head of %q, %d shares its memory", s, n)
			}
		}
	}
}

// R3, R4: a later answer is the same, whatever was asked in between, and though
// the argument lies elsewhere.
func TestAnswersHangOnArgumentsAlone(t *testing.T) {
	texts := append(sounds(), spoilt()...)
	type told struct {
		check, head, fold api.Errno
		count             int
		isText            bool
		first, folded     string
		hash              uint32
	}
	ask := func(s string) told {
		var x told
		x.check = name.Check(s)
		x.count, x.isText = name.Count(s)
		x.first, x.head = name.Head(s, 3)
		x.folded, x.fold = name.Fold(s)
		x.hash = name.Hash(s)
		return x
	}
	var first []told
	for _, s := range texts {
		first = append(first, ask(s))
	}
	for i := len(texts) - 1; i >= 0; i-- {
		if again := ask(strings.Clone(texts[i])); again != first[i] {
			t.Fatalf("%q: %v, and later %v", texts[i], first[i], again)
		}
	}
}

// R1: long texts are gone through to their end.
func TestLongTexts(t *testing.T) {
	long := strings.Repeat("Aä€\U0001F600", 1<<17)
	if n, ok := name.Count(long); n != 1<<19 || !ok || name.Check(long) != api.ErrLong {
		t.Errorf("Count = %d, %v", n, ok)
	}
	if n, ok := name.Count(long + "\xC3"); n != 0 || ok || name.Check(long+"\xC3") != api.ErrText {
		t.Errorf("Count of one with a cut rune at its end = %d, %v", n, ok)
	}
	fold, e := name.Fold(long)
	if fold != strings.Repeat("aä€\U0001F600", 1<<17) || e != api.OK || !name.Same(fold, long) || !name.Less(long, fold) || !name.Less(long, long+"a") {
		t.Error("Fold, Same, Less of a long text")
	}
	if head, e := name.Head(long, 1<<19-1); head != long[:len(long)-4] || e != api.OK {
		t.Error("Head of a long text")
	}
}

func BenchmarkCheck(b *testing.B) {
	s := strings.Repeat("Aä€\U0001F600", 16)
	for b.Loop() {
		name.Check(s)
	}
}

func BenchmarkFold(b *testing.B) {
	s := strings.Repeat("Aä€\U0001F600", 16)
	for b.Loop() {
		name.Fold(s)
	}
}

func BenchmarkHash(b *testing.B) {
	s := strings.Repeat("Aä€\U0001F600", 16)
	for b.Loop() {
		name.Hash(s)
	}
}
