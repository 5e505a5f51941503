package ballot_test

import (
	"math"
	"testing"

	"mooring/api"
	"mooring/ballot"
)

// nexts looks at the ballot that Next tells.
func nexts(t testing.TB, seen api.Ballot, mon int, want api.Ballot) {
	t.Helper()
	if got, ok := ballot.Next(seen, mon); got != want || !ok {
		t.Errorf("Next(%v, %d): %v and %v, and not %v", seen, mon, got, ok, want)
	}
}

// nextsNone looks whether there is no next one.
func nextsNone(t testing.TB, seen api.Ballot, mon int) {
	t.Helper()
	if got, ok := ballot.Next(seen, mon); got != (api.Ballot{}) || ok {
		t.Errorf("Next(%v, %d): %v and %v, and not none", seen, mon, got, ok)
	}
}

// The chapter's example.
func TestExample(t *testing.T) {
	nexts(t, bal(3, 1), 0, bal(4, 0))
	nexts(t, bal(3, 1), 2, bal(3, 2))
}

// Ba1: Less goes by Round first, then by Mon.
func TestLess(t *testing.T) {
	rising := []api.Ballot{
		bal(math.MinInt, math.MaxInt), bal(-1, 0), bal(-1, 6), bal(0, math.MinInt), bal(0, -1),
		{}, bal(0, 1), bal(1, -1), bal(1, 0), bal(1, 1), bal(1, topMon), bal(1, topMon+1), bal(2, 0), bal(2, 5), bal(3, 1),
		bal(topRound-1, topMon), bal(topRound, 0), bal(topRound, topMon), bal(topRound+1, 0), bal(math.MaxInt, math.MinInt), bal(math.MaxInt, math.MaxInt),
	}
	for i, a := range rising {
		for j, b := range rising {
			if got := ballot.Less(a, b); got != (i < j) {
				t.Errorf("Less(%v, %v) is %v", a, b, got)
			}
		}
	}
}

// Ba1: the zero ballot is lower than all that may be, and none of them is lower than
// it.
func TestZeroIsLowest(t *testing.T) {
	zero := api.Ballot{}
	if ballot.Less(zero, zero) {
		t.Error("the zero ballot is lower than itself")
	}
	for _, b := range edgeBallots() {
		if slowMay(b) && (!ballot.Less(zero, b) || ballot.Less(b, zero)) {
			t.Errorf("the zero ballot is not lower than %v", b)
		}
	}
}

// Ba1, R1: all pairs of the edges, whether they may be or not.
func TestLessAtTheEdges(t *testing.T) {
	for _, a := range edgeBallots() {
		for _, b := range edgeBallots() {
			if got, want := ballot.Less(a, b), slowLess(a, b); got != want {
				t.Errorf("Less(%v, %v) is %v", a, b, got)
			}
		}
	}
}

// Ba1: which acceptors may be, one by one.
func TestMay(t *testing.T) {
	zero := api.Ballot{}
	for _, c := range []struct {
		a    api.Acceptor
		want bool
	}{
		{api.Acceptor{}, true},
		{acc(zero, zero, ""), true},
		{acc(bal(1, 0), zero, ""), true},
		{acc(bal(1, 0), bal(1, 0), ""), true},
		{acc(bal(1, 0), bal(1, 0), "v"), true},
		{acc(bal(2, 0), bal(1, topMon), "v"), true},
		{acc(bal(2, 1), bal(2, 0), "v"), true},
		{acc(bal(topRound, topMon), bal(topRound, topMon), "v"), true},
		{acc(bal(topRound, topMon), bal(1, 0), "v"), true},

		{acc(bal(1, 0), bal(1, 1), "v"), false}, // Accepted above Promised
		{acc(bal(1, topMon), bal(2, 0), "v"), false},
		{acc(zero, bal(1, 0), "v"), false},
		{acc(zero, bal(1, 0), ""), false},
		{acc(zero, zero, "v"), false}, // a Value, and nothing Accepted
		{acc(bal(1, 0), zero, "v"), false},
		{acc(bal(topRound+1, 0), zero, ""), false}, // Promised that may not be
		{acc(bal(topRound+1, 0), bal(1, 0), "v"), false},
		{acc(bal(1, topMon+1), zero, ""), false},
		{acc(bal(1, -1), zero, ""), false},
		{acc(bal(0, 1), zero, ""), false},
		{acc(bal(0, -1), zero, ""), false},
		{acc(bal(-1, 0), zero, ""), false},
		{acc(bal(topRound+1, 0), bal(topRound+1, 0), "v"), false}, // Accepted that may not be
		{acc(bal(2, 0), bal(1, topMon+1), "v"), false},
		{acc(bal(2, 0), bal(1, -1), "v"), false},
		{acc(bal(2, 0), bal(0, 1), "v"), false},
		{acc(bal(2, 0), bal(0, 1), ""), false},
		{acc(bal(2, 0), bal(0, -1), ""), false},
		{acc(bal(2, 0), bal(-1, 0), "v"), false},
	} {
		if got := ballot.May(c.a); got != c.want {
			t.Errorf("May(%v) is %v", c.a, got)
		}
	}
}

// Ba1, R1: all edges as Promised and as Accepted, with values that are nil, empty and
// neither.
func TestMayAtTheEdges(t *testing.T) {
	for _, p := range edgeBallots() {
		for _, b := range edgeBallots() {
			for _, v := range [][]byte{nil, {}, {0}} {
				a := api.Acceptor{Promised: p, Accepted: b, Value: v}
				if got, want := ballot.May(a), slowMayAcceptor(a); got != want {
					t.Fatalf("May(%v) is %v", a, got)
				}
			}
		}
	}
}

// Ba1: Next above a ballot of the same Mon, of a lower one and of a higher one.
func TestNext(t *testing.T) {
	nexts(t, bal(5, 3), 3, bal(6, 3))
	nexts(t, bal(5, 3), 2, bal(6, 2))
	nexts(t, bal(5, 3), 0, bal(6, 0))
	nexts(t, bal(5, 3), 4, bal(5, 4))
	nexts(t, bal(5, 3), topMon, bal(5, topMon))
	nexts(t, bal(1, 0), 0, bal(2, 0))
	nexts(t, bal(1, 0), 1, bal(1, 1))
	nexts(t, bal(1, topMon), topMon, bal(2, topMon))
}

// Ba1: above the zero ballot there is Round 1, for each.
func TestNextOfZero(t *testing.T) {
	for mon := range topMon + 1 {
		nexts(t, api.Ballot{}, mon, bal(1, mon))
	}
}

// Ba1: in the last Round there is one for those with a higher Mon alone.
func TestNextOfTheLastRound(t *testing.T) {
	for had := range topMon + 1 {
		for mon := range topMon + 1 {
			nexts(t, bal(topRound-1, had), mon, lastOr(had, mon))
			if mon > had {
				nexts(t, bal(topRound, had), mon, bal(topRound, mon))
			} else {
				nextsNone(t, bal(topRound, had), mon)
			}
		}
	}
}

// lastOr is the next ballot above one of the last Round but one.
func lastOr(had, mon int) api.Ballot {
	if mon > had {
		return bal(topRound-1, mon)
	}
	return bal(topRound, mon)
}

// Ba1: there is none for a Mon that can be none, nor above a ballot that may not be.
func TestNextOfNone(t *testing.T) {
	for _, mon := range []int{-1, topMon + 1, topMon + 2, math.MaxInt, math.MinInt} {
		for _, seen := range []api.Ballot{{}, bal(1, 0), bal(3, topMon), bal(topRound, 0), bal(topRound+1, 0)} {
			nextsNone(t, seen, mon)
		}
	}
	for _, seen := range edgeBallots() {
		if !slowMay(seen) && seen != (api.Ballot{}) {
			for _, mon := range mons {
				nextsNone(t, seen, mon)
			}
		}
	}
}

// Ba1, R1: Next of all edges, held against the chapter's words.
func TestNextAtTheEdges(t *testing.T) {
	for _, seen := range edgeBallots() {
		for _, mon := range mons {
			if want, ok := slowNext(seen, mon); ok {
				nexts(t, seen, mon, want)
			} else {
				nextsNone(t, seen, mon)
			}
		}
	}
}

// Ba2: an acceptor promises what is Promised already, and what is higher.
func TestPrepare(t *testing.T) {
	a := acc(bal(3, 2), bal(2, 5), "v")
	prepares(t, a, bal(3, 2), a, true)
	for _, b := range []api.Ballot{bal(3, 3), bal(4, 0), bal(4, 2), bal(topRound, topMon)} {
		prepares(t, a, b, acc(b, bal(2, 5), "v"), true)
	}
	for _, b := range []api.Ballot{bal(1, 0), bal(1, topMon)} {
		prepares(t, api.Acceptor{}, b, acc(b, api.Ballot{}, ""), true)
	}
}

// Ba2: it is itself, if the ballot is lower than Promised, higher than Accepted or
// not.
func TestPrepareOfALowerOne(t *testing.T) {
	a := acc(bal(3, 2), bal(2, 5), "v")
	for _, b := range []api.Ballot{bal(3, 1), bal(3, 0), bal(2, 6), bal(2, 5), bal(2, 4), bal(1, 0)} {
		prepares(t, a, b, a, false)
		accepts(t, a, b, "w", a, false)
	}
}

// Ba2: it is itself, if it or the ballot may not be; the zero ballot may not be.
func TestPrepareOfWhatMayNotBe(t *testing.T) {
	a := acc(bal(3, 2), bal(2, 5), "v")
	for _, b := range edgeBallots() {
		if slowMay(b) {
			continue
		}
		for _, x := range []api.Acceptor{{}, a} {
			prepares(t, x, b, x, false)
			accepts(t, x, b, "w", x, false)
		}
	}
	for _, x := range edgeAcceptors() {
		if !slowMayAcceptor(x) {
			prepares(t, x, bal(topRound, topMon), x, false)
			accepts(t, x, bal(topRound, topMon), "w", x, false)
		}
	}
}

// Ba2: an acceptor accepts what is Promised, and what is higher, and promises it,
// too; a value that it had is no more.
func TestAccept(t *testing.T) {
	a := acc(bal(3, 2), bal(2, 5), "v")
	for _, b := range []api.Ballot{bal(3, 2), bal(3, 3), bal(4, 0), bal(topRound, topMon)} {
		for _, v := range []string{"w", "", "v", "longer than all that it had"} {
			accepts(t, a, b, v, acc(b, b, v), true)
		}
	}
	accepts(t, api.Acceptor{}, bal(1, 0), "v", acc(bal(1, 0), bal(1, 0), "v"), true)
	b := acc(bal(1, 1), bal(1, 1), "v")
	accepts(t, b, bal(1, 1), "w", acc(bal(1, 1), bal(1, 1), "w"), true)
}

// Ba2: nil is a value like the empty one.
func TestAcceptOfNil(t *testing.T) {
	got, ok := ballot.Accept(acc(bal(1, 0), bal(1, 0), "v"), bal(2, 0), nil)
	if !ok || !same(got, acc(bal(2, 0), bal(2, 0), "")) || !ballot.May(got) {
		t.Errorf("Accept of nil: %v and %v", got, ok)
	}
}

// Ba2, R1: many acceptors and all edges, held against the chapter's words.
func TestPrepareAndAcceptAtTheEdges(t *testing.T) {
	for _, a := range edgeAcceptors() {
		for _, b := range edgeBallots() {
			want, ok := slowPrepare(a, b)
			prepares(t, a, b, want, ok)
			want, ok = slowAccept(a, b, []byte("w"))
			accepts(t, a, b, "w", want, ok)
		}
	}
}

// Ba3: Pick tells the Value of the highest Accepted, wherever it stands; what is
// Promised does not matter.
func TestPick(t *testing.T) {
	low := acc(bal(9, 0), bal(1, 5), "low")
	middle := acc(bal(4, 0), bal(2, 0), "middle")
	high := acc(bal(2, 1), bal(2, 1), "high")
	promised := acc(bal(topRound, 0), api.Ballot{}, "")
	for _, l := range [][]api.Acceptor{
		{high}, {low, middle, high}, {high, middle, low}, {middle, high, low}, {promised, high, low},
		{high, promised, {}}, {low, low, low, high}, {{}, {}, {}, high, promised},
	} {
		picks(t, l, "own", "high")
	}
	picks(t, []api.Acceptor{low, middle, promised}, "own", "middle")
	picks(t, []api.Acceptor{low, {}}, "own", "low")
}

// Ba3: of several with the same highest Accepted the first one counts.
func TestPickTheFirst(t *testing.T) {
	a, b, c := acc(bal(2, 1), bal(2, 1), "a"), acc(bal(3, 0), bal(2, 1), "b"), acc(bal(2, 1), bal(2, 1), "")
	low := acc(bal(7, 0), bal(2, 0), "low")
	picks(t, []api.Acceptor{a, b, c}, "own", "a")
	picks(t, []api.Acceptor{b, a, c}, "own", "b")
	picks(t, []api.Acceptor{low, {}, c, b, a, low}, "own", "")
	picks(t, []api.Acceptor{low, a, low, b}, "own", "a")
}

// Ba3: own is picked if none has accepted, and only then: a value that was accepted
// may be empty.
func TestPickOwn(t *testing.T) {
	promised := acc(bal(5, 0), api.Ballot{}, "")
	for _, l := range [][]api.Acceptor{nil, {}, {{}}, {promised}, {{}, promised, {}}} {
		picks(t, l, "own", "own")
		picks(t, l, "", "")
		if got := ballot.Pick(l, nil); len(got) != 0 {
			t.Errorf("Pick(%v, nil): %q", l, got)
		}
	}
	picks(t, []api.Acceptor{{}, acc(bal(1, 0), bal(1, 0), "")}, "own", "")
	picks(t, []api.Acceptor{{Promised: bal(1, 0), Accepted: bal(1, 0)}, {}}, "own", "")
}

// Ba3: who has no ballot Accepted has not accepted, whatever its Value is; who has
// one has, even if that may not be.
func TestPickOfWhatMayNotBe(t *testing.T) {
	picks(t, []api.Acceptor{acc(bal(1, 0), api.Ballot{}, "v")}, "own", "own")
	picks(t, []api.Acceptor{acc(api.Ballot{}, bal(1, 0), "v")}, "own", "v")
	picks(t, []api.Acceptor{acc(bal(1, 0), bal(1, 0), "v"), acc(bal(1, 0), bal(topRound+1, 0), "w")}, "own", "w")
	picks(t, []api.Acceptor{{}, acc(api.Ballot{}, bal(-1, 0), "v"), {}}, "own", "v")
	picks(t, []api.Acceptor{acc(api.Ballot{}, bal(-2, 9), "v"), acc(api.Ballot{}, bal(-1, 0), "w")}, "own", "w")
}

// Ba3: more than half is just so many: of each length all counts of those that
// accepted, at the beginning and at the end of the list.
func TestChosen(t *testing.T) {
	b := bal(3, 1)
	for length := range 12 {
		for n := range length + 1 {
			first, last := make([]api.Acceptor, length), make([]api.Acceptor, length)
			for i := range n {
				first[i], last[length-1-i] = acc(bal(9, 0), b, "v"), acc(b, b, "v")
			}
			for _, l := range [][]api.Acceptor{first, last} {
				if n+n > length {
					chooses(t, l, b, "v")
				} else {
					choosesNone(t, l)
				}
			}
		}
	}
}

// Ba3: the others may have accepted others, higher ones too: they count for those
// alone, though Round, Mon or the Value is the same.
func TestChosenAmongOthers(t *testing.T) {
	a := acc(bal(3, 1), bal(3, 1), "v")
	round, mon, value := acc(bal(3, 2), bal(3, 2), "v"), acc(bal(4, 1), bal(4, 1), "v"), acc(bal(2, 2), bal(2, 2), "v")
	chooses(t, []api.Acceptor{round, a, mon, a, value, a, a}, bal(3, 1), "v")
	chooses(t, []api.Acceptor{a, a, mon}, bal(3, 1), "v")
	chooses(t, []api.Acceptor{mon, a, a, {}, a}, bal(3, 1), "v")
	choosesNone(t, []api.Acceptor{round, a, mon, a, value, a})
	choosesNone(t, []api.Acceptor{a, round, mon})
	choosesNone(t, []api.Acceptor{a, mon})
	choosesNone(t, []api.Acceptor{a, a, mon, mon})
}

// Ba3: of several with the same Accepted and other Values the first one's is told,
// and all of them count.
func TestChosenTheFirst(t *testing.T) {
	b := bal(1, 0)
	x, y, empty := acc(b, b, "x"), acc(bal(2, 0), b, "y"), acc(b, b, "")
	other := acc(bal(2, 0), bal(2, 0), "other")
	chooses(t, []api.Acceptor{x, y, other}, b, "x")
	chooses(t, []api.Acceptor{other, y, x}, b, "y")
	chooses(t, []api.Acceptor{{}, empty, x, y, other}, b, "")
	chooses(t, []api.Acceptor{{}, {Promised: b, Accepted: b}, x}, b, "")
}

// Ba3: none is chosen where none is, or none has accepted, however many have not.
func TestChosenNone(t *testing.T) {
	promised := acc(bal(5, 0), api.Ballot{}, "")
	valued := acc(bal(5, 0), api.Ballot{}, "v") // may not be
	for _, l := range [][]api.Acceptor{nil, {}, {{}}, {promised}, {promised, promised, promised}, {{}, {}, acc(bal(1, 0), bal(1, 0), "v")}, {valued, valued}} {
		choosesNone(t, l)
	}
	chooses(t, []api.Acceptor{acc(bal(1, 0), bal(1, 0), "")}, bal(1, 0), "")
}

// Ba3: a ballot that may not be can be Accepted by more than half, too.
func TestChosenOfWhatMayNotBe(t *testing.T) {
	for _, b := range edgeBallots() {
		if b != (api.Ballot{}) {
			chooses(t, []api.Acceptor{{}, {Accepted: b, Value: []byte("v")}, {Accepted: b}}, b, "v")
		}
	}
}

// R4: what is told hangs on the list alone: the same again and again, whatever the
// order in which a map is gone through.
func TestAgainAndAgain(t *testing.T) {
	var l []api.Acceptor
	for i := range 7 {
		b := bal(1+i, i)
		l = append(l, acc(b, b, "other"), acc(bal(9, 0), bal(3, 6), "v"))
	}
	l = append(l, acc(bal(9, 0), bal(3, 6), "w"))
	for range 200 {
		chooses(t, l, bal(3, 6), "v")
		picks(t, l, "own", "other")
		choosesNone(t, l[:14])
	}
}

// Ba3: a long list.
func TestLongLists(t *testing.T) {
	l := make([]api.Acceptor, 100001)
	for i := range l {
		b := bal(1+i%2, 0)
		l[i] = acc(b, b, "v")
	}
	chooses(t, l, bal(1, 0), "v")
	choosesNone(t, l[1:])
	picks(t, l, "own", "v")
}

func BenchmarkPick(b *testing.B) {
	l := benchmarkList()
	for b.Loop() {
		ballot.Pick(l, nil)
	}
}

func BenchmarkChosen(b *testing.B) {
	l := benchmarkList()
	for b.Loop() {
		ballot.Chosen(l)
	}
}

// benchmarkList is as many as there may be monitors, of which four chose one.
func benchmarkList() []api.Acceptor {
	var l []api.Acceptor
	for i := range topMon + 1 {
		b := bal(1+i%2, 0)
		l = append(l, acc(b, b, "a value of some bytes, as a change of the map is"))
	}
	return l
}
