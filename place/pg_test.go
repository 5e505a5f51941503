package place_test

import (
	"math"
	"strings"
	"testing"

	"mooring/api"
	"mooring/name"
	"mooring/place"
)

// Pl1: placement groups of names, worked out elsewhere by the document's words.
func TestPgOfKnownNames(t *testing.T) {
	counts := [7]int{1, 2, 3, 7, 8, 31, 32}
	for object, want := range map[string][7]int{
		"a":                     {0, 1, 2, 5, 3, 17, 11},
		"b":                     {0, 1, 1, 2, 3, 10, 27},
		"A":                     {0, 0, 1, 3, 4, 2, 4},
		"z9":                    {0, 0, 1, 2, 4, 17, 20},
		"Äa b":                  {0, 0, 1, 5, 0, 11, 24},
		"a b":                   {0, 0, 2, 2, 4, 8, 20},
		"0":                     {0, 1, 2, 4, 1, 30, 25},
		"€uro":                  {0, 1, 0, 0, 3, 10, 11},
		strings.Repeat("x", 64): {0, 1, 2, 2, 3, 2, 19},
		strings.Repeat("ä", 64): {0, 0, 1, 5, 2, 1, 26},
		"object-17":             {0, 1, 2, 5, 3, 30, 27},
		"~":                     {0, 1, 2, 1, 1, 23, 25},
		"\U0001F600":            {0, 1, 0, 3, 1, 4, 1},
	} {
		for i, pgs := range counts {
			if got, errno := place.Pg(object, pgs); errno != api.OK || got != want[i] {
				t.Errorf("Pg(%q, %d) = %d, error %d, want %d", object, pgs, got, errno, want[i])
			}
		}
	}
}

// Pl1: of many names, for every number of placement groups, the hash modulo it; each one
// comes.
func TestPgOfManyNames(t *testing.T) {
	n := numbers(2)
	for pgs := 1; pgs <= 32; pgs++ {
		met := make([]int, pgs)
		for range 1000 {
			object := n.object()
			want := int(uint64(name.Hash(object)) % uint64(pgs))
			got, errno := place.Pg(object, pgs)
			if errno != api.OK || got != want {
				t.Fatalf("Pg(%q, %d) = %d, error %d, want %d", object, pgs, got, errno, want)
			}
			met[got]++
		}
		for pg, many := range met {
			if many < 1000/pgs/3 {
				t.Errorf("%d of 1000 names are in placement group %d of %d", many, pg, pgs)
			}
		}
	}
}

// object is a name that may be.
func (n *numbers) object() string {
	all := []rune("abcXYZ019-_.~Äßé€漢😀")
	var out strings.Builder
	for range 1 + n.below(64) {
		out.WriteRune(all[n.below(len(all))])
	}
	return out.String()
}

// wrongNames are names that layer 6's Check refuses, and by which error.
func wrongNames() map[string]api.Errno {
	return map[string]api.Errno{
		"":                                  api.ErrArg,
		" ":                                 api.ErrArg,
		" a":                                api.ErrArg,
		"a ":                                api.ErrArg,
		"a/b":                               api.ErrArg,
		"/":                                 api.ErrArg,
		"a\x00b":                            api.ErrArg,
		"\x1f":                              api.ErrArg,
		"a\x7f":                             api.ErrArg,
		"\uFFFD":                            api.ErrArg,
		strings.Repeat("/", 64):             api.ErrArg,
		strings.Repeat("x", 65):             api.ErrLong,
		strings.Repeat("ä", 65):             api.ErrLong,
		strings.Repeat("/", 65):             api.ErrLong,
		strings.Repeat("x", 1<<20):          api.ErrLong,
		"\xff":                              api.ErrText,
		"a\xc3":                             api.ErrText,
		"\xed\xa0\x80":                      api.ErrText,
		"a/\x80":                            api.ErrText,
		strings.Repeat("x", 1<<20) + "\xfe": api.ErrText,
	}
}

// counts are numbers of placement groups that may be, and wrongCounts others, also such
// whose lowest bits alone would be one.
func counts() []int { return []int{1, 2, 16, 31, 32} }

func wrongCounts() []int {
	return []int{-1, 0, 33, -2, -32, 34, 64, 255, 1 << 31, 1 << 32, 1<<32 + 8, -1 << 32, math.MaxInt, math.MinInt, math.MinInt + 8}
}

// Pl1, R1, R2: what layer 6's Check refuses comes first, also beside a number of
// placement groups that may not be; then that number's ErrArg.
func TestPgRefuses(t *testing.T) {
	for object, want := range wrongNames() {
		if name.Check(object) != want {
			t.Fatalf("%.20q is refused by %d", object, name.Check(object))
		}
		for _, pgs := range append(counts(), wrongCounts()...) {
			if got, errno := place.Pg(object, pgs); errno != want || got != 0 {
				t.Errorf("Pg(%.20q, %d) = %d, error %d, want error %d", object, pgs, got, errno, want)
			}
		}
	}
	for _, object := range []string{"a", "A b", "€", strings.Repeat("ä", 64)} {
		for _, pgs := range wrongCounts() {
			if got, errno := place.Pg(object, pgs); errno != api.ErrArg || got != 0 {
				t.Errorf("Pg(%q, %d) = %d, error %d", object, pgs, got, errno)
			}
		}
		for _, pgs := range counts() {
			if got, errno := place.Pg(object, pgs); errno != api.OK || got < 0 || got >= pgs {
				t.Errorf("Pg(%q, %d) = %d, error %d", object, pgs, got, errno)
			}
		}
	}
}

// Pl2: an object's placement group hangs on its name alone, to the letter: not on what
// was asked ahead, nor on where the name's bytes lie; of one placement group it is 0.
func TestPgHangsOnTheName(t *testing.T) {
	n := numbers(3)
	apart := 0
	for range 300 {
		object := n.object()
		first, _ := place.Pg(object, 32)
		for range 3 {
			place.Pg(n.object(), 1+n.below(32))
			place.Pg("\xff", n.below(99))
		}
		within := "##" + object + "##"
		if got, errno := place.Pg(within[2:2+len(object)], 32); errno != api.OK || got != first {
			t.Fatalf("%q is in %d, and then in %d, error %d", object, first, got, errno)
		}
		if got, errno := place.Pg(object, 1); errno != api.OK || got != 0 {
			t.Fatalf("of one placement group %q is in %d, error %d", object, got, errno)
		}
		if capitals, _ := place.Pg(strings.ToUpper(object), 32); capitals != first {
			apart++
		}
	}
	if apart < 200 {
		t.Errorf("%d of 300 names are elsewhere with capitals", apart)
	}
}
