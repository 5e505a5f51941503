package store_test

import (
	"slices"
	"strings"
	"testing"

	"mooring/api"
	"mooring/store"
)

// shelf is a store of keys that begin alike, and others.
func shelf(t *testing.T) (*store.Store, []pair) {
	t.Helper()
	s, _ := newStore(t, 40)
	l := []api.Act{
		set("o/2", "z"), set("o/10", "y"), set("o/", ""), set("o", "x"), set("p", "w"), set("O/1", "v"),
		set("\x00", "u"), set("\xFF\xFF", "t"), set("\xFF", "s"), set("€", "r"), set("\uFF5E", "q"), set("\U00010000", "p"),
	}
	apply(t, s, l...)
	return s, leave(t, l)
}

// St2: the keys that begin so, rising by bytes: none, some, all.
func TestAllOfAPrefix(t *testing.T) {
	s, all := shelf(t)
	cases := []struct {
		prefix string
		want   []string
	}{
		{"", []string{"\x00", "O/1", "o", "o/", "o/10", "o/2", "p", "\xE2\x82\xAC", "\xEF\xBD\x9E", "\xF0\x90\x80\x80", "\xFF", "\xFF\xFF"}},
		{"o", []string{"o", "o/", "o/10", "o/2"}},
		{"o/", []string{"o/", "o/10", "o/2"}},
		{"o/1", []string{"o/10"}}, {"o/10", []string{"o/10"}}, {"o/100", nil},
		{"O", []string{"O/1"}}, {"p", []string{"p"}}, {"n", nil}, {"q", nil}, {"pp", nil},
		{"\x00", []string{"\x00"}}, {"\x00\x00", nil}, {"\x01", nil},
		{"\xE2", []string{"€"}}, {"\xE2\x82", []string{"€"}}, {"\xE2\x83", nil},
		{"\xFF", []string{"\xFF", "\xFF\xFF"}}, {"\xFF\xFF", []string{"\xFF\xFF"}}, {"\xFF\xFF\xFF", nil},
		{strings.Repeat("o", 65), nil}, {some(5000, 1), nil},
	}
	for _, c := range cases {
		got := collect(s, c.prefix)
		if !slices.Equal(got, within(all, c.prefix)) {
			t.Errorf("All(%q): %q, and not %q", c.prefix, got, within(all, c.prefix))
		}
		if !slices.EqualFunc(got, c.want, func(p pair, key string) bool { return p.key == key }) {
			t.Errorf("All(%q): %q, and not %q", c.prefix, got, c.want)
		}
	}
	alike, _ := newStore(t, 9)
	apply(t, alike, set("ab", "1"), set("a", "2"), set("abc", "3"))
	if got := collect(alike, "a"); !slices.Equal(got, []pair{{"a", "2"}, {"ab", "1"}, {"abc", "3"}}) {
		t.Errorf("all begin so: %q", got)
	}
}

// St2: a store without keys, and one of which all are gone.
func TestAllOfNothing(t *testing.T) {
	s, _ := newStore(t, 9)
	for range 2 {
		for _, prefix := range []string{"", "a", "ab"} {
			if got := collect(s, prefix); len(got) != 0 {
				t.Errorf("All(%q): %q", prefix, got)
			}
		}
		apply(t, s, set("a", "1"), set("ab", ""))
		apply(t, s, take("ab"), take("a"))
	}
}

// R3: a loop may be left at any time: nothing more is told, and another one
// begins at the beginning.
func TestAllLeftEarly(t *testing.T) {
	s, all := shelf(t)
	seq := s.All("")
	for stop := range len(all) {
		var got []pair
		for key, value := range seq {
			got = append(got, pair{key, string(value)})
			if len(got) == stop+1 {
				break
			}
		}
		if !slices.Equal(got, all[:stop+1]) {
			t.Errorf("left behind %d: %q", stop+1, got)
		}
		told := 0
		seq(func(string, []byte) bool {
			told++
			return told <= stop
		})
		if told != stop+1 {
			t.Errorf("left behind %d: told %d times", stop+1, told)
		}
	}
	tells(t, s, all, 1)
}

// R3: a loop tells things as they were when it began, and not when All was
// called; one range function may be gone through often.
func TestAllWhenTheLoopBegins(t *testing.T) {
	s, _ := newStore(t, 9)
	seq := s.All("a")
	look := func(want ...pair) {
		t.Helper()
		var got []pair
		for key, value := range seq {
			got = append(got, pair{key, string(value)})
		}
		if !slices.Equal(got, want) {
			t.Errorf("%q, and not %q", got, want)
		}
	}
	look()
	apply(t, s, set("ab", "1"), set("b", "2"))
	look(pair{"ab", "1"})
	look(pair{"ab", "1"})
	apply(t, s, set("a", "3"), set("ab", "4"))
	look(pair{"a", "3"}, pair{"ab", "4"})
	s.Apply([]api.Act{take("a"), take("x")})
	look(pair{"a", "3"}, pair{"ab", "4"})
	apply(t, s, take("a"))
	look(pair{"ab", "4"})
}

// R1, R3: loops in a loop, and all other calls that turn nothing.
func TestAllInALoop(t *testing.T) {
	s, all := shelf(t)
	var got []pair
	for key, value := range s.All("") {
		got = append(got, pair{key, string(value)})
		tells(t, s, all, 1)
		if errno := s.Apply([]api.Act{set("new", "1"), take("x")}); errno != api.ErrNone {
			t.Fatalf("error %d", errno)
		}
	}
	if !slices.Equal(got, all) {
		t.Errorf("%q, and not %q", got, all)
	}
}

// R1: a loop ends, whatever is done in it, and what is done is done.
func TestAllTurnedInTheLoop(t *testing.T) {
	s, d := newStore(t, 400)
	for i := range 9 {
		apply(t, s, set(string(rune('a'+i)), "1"))
	}
	told := 0
	for key := range s.All("") {
		if told++; told > 50 {
			t.Fatal("the loop does not end")
		}
		apply(t, s, set(key+"x", "2"), set("z"+key, "3"))
		s.Apply([]api.Act{take(string(rune('a' + (told*5)%9)))})
	}
	tells(t, open(t, d), collect(s, ""), s.Batches())
}

// R4: always in one order, whichever way the keys came.
func TestAllIsAlwaysTheSame(t *testing.T) {
	var acts []api.Act
	for i := range 64 {
		acts = append(acts, set(some(1+i%4, i), some(i%3, i)))
	}
	want := leave(t, acts)
	n := numbers(6)
	for range 50 {
		s, _ := newStore(t, 90)
		mixed := slices.Clone(acts)
		for i := range mixed {
			at := n.below(i + 1)
			mixed[i], mixed[at] = mixed[at], mixed[i]
		}
		// Some acts set the same key: those that come last must be the same ones.
		apply(t, s, mixed...)
		apply(t, s, acts...)
		for range 3 {
			if got := collect(s, ""); !slices.Equal(got, want) {
				t.Fatalf("%q, and not %q", got, want)
			}
		}
	}
}

func BenchmarkAll(b *testing.B) {
	s, _ := newStore(b, 4096)
	for i := range 2000 {
		apply(b, s, set(some(1+i%9, i), some(i%30, i)))
	}
	for b.Loop() {
		for range s.All("") {
		}
	}
}
