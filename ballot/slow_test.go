package ballot_test

import (
	"bytes"
	"math"
	"slices"
	"sort"
	"testing"

	"mooring/api"
	"mooring/ballot"
)

// The limits of a ballot, as the chapter says them.
const (
	topRound = 2147483647
	topMon   = 6
)

// The edges of both numbers, and some that may not be.
var (
	rounds = []int{0, 1, 2, 3, topRound - 1, topRound, topRound + 1, -1, -2, math.MaxInt, math.MinInt}
	mons   = []int{0, 1, 3, topMon - 1, topMon, topMon + 1, -1, math.MaxInt, math.MinInt}
)

// bal is a ballot.
func bal(round, mon int) api.Ballot {
	return api.Ballot{Round: round, Mon: mon}
}

// acc is an acceptor.
func acc(promised, accepted api.Ballot, value string) api.Acceptor {
	return api.Acceptor{Promised: promised, Accepted: accepted, Value: []byte(value)}
}

// edgeBallots is each of these rounds with each of these mons, the zero ballot among
// them.
func edgeBallots() []api.Ballot {
	var out []api.Ballot
	for _, r := range rounds {
		for _, m := range mons {
			out = append(out, bal(r, m))
		}
	}
	return out
}

// edgeAcceptors is acceptors of few ballots each, those that may be and others.
func edgeAcceptors() []api.Acceptor {
	few := []api.Ballot{{}, bal(1, 0), bal(1, 1), bal(2, 0), bal(topRound, topMon), bal(topRound+1, 0), bal(1, -1), bal(2, topMon+1), bal(-1, 0), bal(0, 1)}
	var out []api.Acceptor
	for _, p := range few {
		for _, a := range few {
			out = append(out, acc(p, a, ""), acc(p, a, "v"), api.Acceptor{Promised: p, Accepted: a})
		}
	}
	return out
}

// slowLess reckons by the list of both numbers.
func slowLess(a, b api.Ballot) bool {
	return slices.Compare([]int{a.Round, a.Mon}, []int{b.Round, b.Mon}) < 0
}

// slowMay goes by what is wrong with a ballot.
func slowMay(b api.Ballot) bool {
	wrong := b.Round < 1 || b.Round > topRound || b.Mon < 0 || b.Mon > topMon
	return !wrong
}

// slowMayAcceptor goes by what is wrong with an acceptor.
func slowMayAcceptor(a api.Acceptor) bool {
	zero := api.Ballot{}
	switch {
	case a.Promised != zero && !slowMay(a.Promised):
		return false
	case a.Accepted != zero && !slowMay(a.Accepted):
		return false
	case slowLess(a.Promised, a.Accepted):
		return false
	case a.Accepted == zero && len(a.Value) > 0:
		return false
	}
	return true
}

// slowNext goes through the ballots of mon around seen, from low ones on.
func slowNext(seen api.Ballot, mon int) (api.Ballot, bool) {
	if seen != (api.Ballot{}) && !slowMay(seen) {
		return api.Ballot{}, false
	}
	for r := seen.Round - 2; r <= seen.Round+2; r++ {
		if b := bal(r, mon); slowMay(b) && slowLess(seen, b) {
			return b, true
		}
	}
	return api.Ballot{}, false
}

// slowPrepare goes by the ballots' places among all that may be.
func slowPrepare(a api.Acceptor, b api.Ballot) (api.Acceptor, bool) {
	if !slowMayAcceptor(a) || !slowMay(b) || place(b) < place(a.Promised) {
		return a, false
	}
	return api.Acceptor{Promised: b, Accepted: a.Accepted, Value: a.Value}, true
}

// slowAccept goes by the ballots' places among all that may be.
func slowAccept(a api.Acceptor, b api.Ballot, v []byte) (api.Acceptor, bool) {
	if !slowMayAcceptor(a) || !slowMay(b) || place(b) < place(a.Promised) {
		return a, false
	}
	return api.Acceptor{Promised: b, Accepted: b, Value: v}, true
}

// place is the number of a ballot that may be, rising with it; that of the zero one
// is below them all.
func place(b api.Ballot) int64 {
	return int64(b.Round)*(topMon+1) + int64(b.Mon)
}

// slowPick sorts those that have accepted, the highest first.
func slowPick(l []api.Acceptor, own []byte) []byte {
	var have []api.Acceptor
	for _, a := range l {
		if a.Accepted != (api.Ballot{}) {
			have = append(have, a)
		}
	}
	sort.SliceStable(have, func(i, j int) bool { return slowLess(have[j].Accepted, have[i].Accepted) })
	if len(have) == 0 {
		return own
	}
	return have[0].Value
}

// slowChosen holds each one against all, and keeps the highest that has enough.
func slowChosen(l []api.Acceptor) (best api.Ballot, value []byte, found bool) {
	for _, a := range l {
		same, other := 0, 0
		for _, x := range l {
			if x.Accepted == a.Accepted {
				same++
			} else {
				other++
			}
		}
		if a.Accepted == (api.Ballot{}) || same <= other {
			continue
		}
		if !found || slowLess(best, a.Accepted) {
			best, value, found = a.Accepted, a.Value, true
		}
	}
	return best, value, found
}

// same says whether two acceptors are.
func same(a, b api.Acceptor) bool {
	return a.Promised == b.Promised && a.Accepted == b.Accepted && bytes.Equal(a.Value, b.Value)
}

// prepares looks at what Prepare tells of an acceptor and a ballot.
func prepares(t testing.TB, a api.Acceptor, b api.Ballot, want api.Acceptor, wantOk bool) {
	t.Helper()
	if got, ok := ballot.Prepare(a, b); !same(got, want) || ok != wantOk {
		t.Fatalf("Prepare(%v, %v): %v and %v, and not %v and %v", a, b, got, ok, want, wantOk)
	}
}

// accepts looks at what Accept tells of an acceptor, a ballot and a value.
func accepts(t testing.TB, a api.Acceptor, b api.Ballot, v string, want api.Acceptor, wantOk bool) {
	t.Helper()
	if got, ok := ballot.Accept(a, b, []byte(v)); !same(got, want) || ok != wantOk {
		t.Fatalf("Accept(%v, %v, %q): %v and %v, and not %v and %v", a, b, v, got, ok, want, wantOk)
	}
}

// picks looks at what Pick tells of a list.
func picks(t testing.TB, l []api.Acceptor, own, want string) {
	t.Helper()
	if got := ballot.Pick(l, []byte(own)); string(got) != want {
		t.Fatalf("Pick(%v, %q): %q, and not %q", l, own, got, want)
	}
}

// chooses looks at what Chosen tells of a list in which a ballot is chosen.
func chooses(t testing.TB, l []api.Acceptor, want api.Ballot, value string) {
	t.Helper()
	if b, v, ok := ballot.Chosen(l); b != want || string(v) != value || !ok {
		t.Fatalf("Chosen(%v): %v, %q and %v, and not %v and %q", l, b, v, ok, want, value)
	}
}

// choosesNone looks whether nothing is chosen in a list.
func choosesNone(t testing.TB, l []api.Acceptor) {
	t.Helper()
	if b, v, ok := ballot.Chosen(l); b != (api.Ballot{}) || len(v) != 0 || ok {
		t.Fatalf("Chosen(%v): %v, %q and %v, and not none", l, b, v, ok)
	}
}

// numbers is a stream of numbers that look like chance, and are always the same.
type numbers uint64

func (n *numbers) below(limit int) int {
	*n = *n*6364136223846793005 + 1442695040888963407
	return int(uint64(*n)>>33) % limit
}

// ballot is one of a stream: often a low one, sometimes one of the edges.
func (n *numbers) ballot() api.Ballot {
	switch n.below(8) {
	case 0:
		return bal(rounds[n.below(len(rounds))], mons[n.below(len(mons))])
	case 1, 2:
		return api.Ballot{}
	}
	return bal(1+n.below(3), n.below(3))
}

// acceptor is one of a stream: mostly one that may be.
func (n *numbers) acceptor() api.Acceptor {
	a := api.Acceptor{Promised: n.ballot(), Accepted: n.ballot(), Value: n.value()}
	if n.below(4) == 0 {
		return a
	}
	if slowLess(a.Promised, a.Accepted) {
		a.Promised, a.Accepted = a.Accepted, a.Promised
	}
	if a.Accepted == (api.Ballot{}) {
		a.Value = nil
	}
	return a
}

// value is bytes of a stream, few of them, or none.
func (n *numbers) value() []byte {
	switch length := n.below(5); length {
	case 0:
		return nil
	default:
		out := make([]byte, length-1)
		for i := range out {
			out[i] = byte('a' + n.below(3))
		}
		return out
	}
}
