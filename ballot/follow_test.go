package ballot_test

import (
	"slices"
	"testing"

	"mooring/api"
	"mooring/ballot"
)

// seats is how many acceptors the runs have that are gone through one by one.
const seats = 3

// seat is an acceptor that can be held against others by ==.
type seat struct {
	promised, accepted api.Ballot
	value              string
}

func (s seat) acceptor() api.Acceptor {
	return acc(s.promised, s.accepted, s.value)
}

func seatOf(a api.Acceptor) seat {
	return seat{a.Promised, a.Accepted, string(a.Value)}
}

// bid is what one that prepares and accepts knows of its ballot.
type bid struct {
	ballot   api.Ballot
	promised [seats]bool
	told     [seats]seat // those that promised, as they were then
	picked   string      // the value; empty: none yet
	accepted [seats]bool // who ever accepted it
}

// world is acceptors, and some that prepare and accept.
type world struct {
	seats [seats]seat
	bids  [3]bid
}

// picker is what says which value is asked for.
type picker func(l []api.Acceptor, own []byte) []byte

// prepare lets a bid's ballot be promised by an acceptor.
func (w world) prepare(b, s int) (world, bool) {
	x := &w.bids[b]
	a, ok := ballot.Prepare(w.seats[s].acceptor(), x.ballot)
	if !ok || x.picked != "" {
		return w, false
	}
	w.seats[s] = seatOf(a)
	x.promised[s], x.told[s] = true, w.seats[s]
	return w, true
}

// pick lets a bid have its value by those of a set that promised.
func (w world) pick(b, set int, pick picker) (world, bool) {
	x := &w.bids[b]
	var l []api.Acceptor
	for s := range seats {
		if set>>s&1 == 0 {
			continue
		}
		if !x.promised[s] {
			return w, false
		}
		l = append(l, x.told[s].acceptor())
	}
	if 2*len(l) <= seats || x.picked != "" {
		return w, false
	}
	x.picked = string(pick(l, []byte{byte('a' + b)}))
	return w, true
}

// accept lets a bid's value be accepted by an acceptor.
func (w world) accept(b, s int) (world, bool) {
	x := &w.bids[b]
	if x.picked == "" {
		return w, false
	}
	a, ok := ballot.Accept(w.seats[s].acceptor(), x.ballot, []byte(x.picked))
	if !ok {
		return w, false
	}
	w.seats[s] = seatOf(a)
	x.accepted[s] = true
	return w, true
}

// chosen is the values of the bids that more than half accepted at some time, and the
// one that is chosen now, if there is one.
func (w world) chosen() (ever, now []string) {
	for _, x := range w.bids {
		n := 0
		for _, ok := range x.accepted {
			if ok {
				n++
			}
		}
		if 2*n > seats {
			ever = append(ever, x.picked)
		}
	}
	var l []api.Acceptor
	for _, s := range w.seats {
		l = append(l, s.acceptor())
	}
	if _, v, ok := ballot.Chosen(l); ok {
		now = append(now, string(v))
	}
	return ever, now
}

// steps is all that can come next.
func (w world) steps(pick picker) []world {
	var out []world
	add := func(next world, ok bool) {
		if ok {
			out = append(out, next)
		}
	}
	for b := range w.bids {
		for s := range seats {
			add(w.prepare(b, s))
			add(w.accept(b, s))
		}
		for set := range 1 << seats {
			add(w.pick(b, set, pick))
		}
	}
	return out
}

// tally is what came of going through all runs.
type tally struct {
	worlds  int
	single  int // in which one value was chosen by one ballot
	several int // in which one value was chosen by several ballots
	broken  int // in which two values were chosen
	example world
}

// goThrough goes through each world that can come of one.
func goThrough(first world, pick picker) (out tally) {
	seen := map[world]bool{first: true}
	for todo := []world{first}; len(todo) > 0; {
		w := todo[len(todo)-1]
		todo = todo[:len(todo)-1]
		out.worlds++
		values, now := w.chosen()
		ballots := len(values)
		values = append(values, now...)
		slices.Sort(values)
		switch different := slices.Compact(values); {
		case len(different) > 1:
			out.broken++
			out.example = w
		case ballots > 1:
			out.several++
		case ballots == 1:
			out.single++
		}
		for _, next := range w.steps(pick) {
			if !seen[next] {
				seen[next] = true
				todo = append(todo, next)
			}
		}
	}
	return out
}

// firstWorld is nobody that promised anything yet, and bids of these ballots.
func firstWorld(ballots ...api.Ballot) (w world) {
	for i, b := range ballots {
		w.bids[i].ballot = b
	}
	return w
}

// Ba4: each run of three acceptors and of two or three ballots, in every order of
// what is prepared, picked and accepted, with each set of more than half: no two
// values are ever chosen.
func TestOneDecreeInEveryRun(t *testing.T) {
	for _, ballots := range [][]api.Ballot{
		{bal(1, 0), bal(1, 1)},
		{bal(topRound, topMon), bal(2, 0)},
		{bal(1, 0), bal(1, 1), bal(2, 0)},
	} {
		got := goThrough(firstWorld(ballots...), ballot.Pick)
		if got.broken > 0 {
			t.Fatalf("%v: two values are chosen, in %v", ballots, got.example)
		}
		if got.single < 10 || got.several < 10 {
			t.Errorf("%v: of %d worlds one was chosen in %d, and by several ballots in %d alone", ballots, got.worlds, got.single, got.several)
		}
	}
}

// The runs would tell it: if everybody asked for its own value, or for that of the
// lowest Accepted, two were chosen.
func TestTheRunsTellAWrongPick(t *testing.T) {
	own := func(l []api.Acceptor, own []byte) []byte { return own }
	lowest := func(l []api.Acceptor, own []byte) []byte {
		v, low := own, bal(topRound, topMon)
		for _, a := range l {
			if a.Accepted != (api.Ballot{}) && slowLess(a.Accepted, low) {
				v, low = a.Value, a.Accepted
			}
		}
		return v
	}
	for i, pick := range []picker{own, lowest} {
		if got := goThrough(firstWorld(bal(1, 0), bal(1, 1), bal(2, 0)), pick); got.broken == 0 {
			t.Errorf("wrong pick %d: no two values are chosen in %d worlds", i, got.worlds)
		}
	}
}

// race is a run of any number of acceptors, with all that was ever done.
type race struct {
	t         testing.TB
	acceptors []api.Acceptor
	runs      []*runner
	chosen    map[string][]api.Ballot // by value: which ballots chose it
}

// runner is one that prepares and accepts with one ballot.
type runner struct {
	ballot   api.Ballot
	promises map[int]api.Acceptor // by acceptor: as it was when it promised
	picked   bool
	value    string
	accepted map[int]bool
}

func newRace(t testing.TB, n int) *race {
	return &race{t: t, acceptors: make([]api.Acceptor, n), chosen: map[string][]api.Ballot{}}
}

// enter lets one more run, with the next ballot of mon above one that was seen.
func (r *race) enter(seen api.Ballot, mon int) {
	b, ok := ballot.Next(seen, mon)
	taken := slices.ContainsFunc(r.runs, func(x *runner) bool { return x.ballot == b })
	if ok && !taken {
		r.runs = append(r.runs, &runner{ballot: b, promises: map[int]api.Acceptor{}, accepted: map[int]bool{}})
	}
}

// prepare asks an acceptor for a promise.
func (r *race) prepare(x *runner, i int) {
	a, ok := ballot.Prepare(r.acceptors[i], x.ballot)
	r.turn(i, a)
	if ok && !x.picked {
		x.promises[i] = a
	}
}

// pick lets one have its value, if more than half promised; leave says who of these
// is left out, as long as enough stay.
func (r *race) pick(x *runner, leave int, own string) {
	var l []api.Acceptor
	for i := range r.acceptors {
		if a, ok := x.promises[i]; ok {
			l = append(l, a)
		}
	}
	if len(l) > 0 && 2*(len(l)-1) > len(r.acceptors) {
		l = slices.Delete(l, leave%len(l), leave%len(l)+1)
	}
	if leave%2 == 1 {
		slices.Reverse(l)
	}
	if 2*len(l) > len(r.acceptors) && !x.picked {
		x.picked, x.value = true, string(ballot.Pick(l, []byte(own)))
	}
}

// accept asks an acceptor to accept.
func (r *race) accept(x *runner, i int) {
	if !x.picked {
		return
	}
	a, ok := ballot.Accept(r.acceptors[i], x.ballot, []byte(x.value))
	r.turn(i, a)
	if ok {
		x.accepted[i] = true
	}
	if 2*len(x.accepted) > len(r.acceptors) && !slices.Contains(r.chosen[x.value], x.ballot) {
		r.chosen[x.value] = append(r.chosen[x.value], x.ballot)
	}
}

// turn puts an acceptor in its place: it may be, and what it promised never falls.
func (r *race) turn(i int, a api.Acceptor) {
	if !ballot.May(a) || ballot.Less(a.Promised, r.acceptors[i].Promised) || ballot.Less(a.Accepted, r.acceptors[i].Accepted) {
		r.t.Fatalf("%v turned to %v", r.acceptors[i], a)
	}
	r.acceptors[i] = a
}

// look holds what was ever chosen against each other, and against what is chosen now.
func (r *race) look() {
	b, v, ok := ballot.Chosen(r.acceptors)
	if ok && !slices.Contains(r.chosen[string(v)], b) {
		r.t.Fatalf("%v with %q is chosen, and was not by what was done: %v", b, v, r.chosen)
	}
	if len(r.chosen) > 1 {
		r.t.Fatalf("several values were chosen: %v", r.chosen)
	}
}

// step does one thing that a stream of numbers says.
func (r *race) step(below func(int) int) {
	kind := below(12)
	if len(r.runs) == 0 || kind == 0 {
		seen := api.Ballot{}
		if len(r.runs) > 0 && below(4) > 0 {
			seen = r.runs[below(len(r.runs))].ballot
		}
		r.enter(seen, below(topMon+1))
		return
	}
	// Mostly one of those that entered last: else a new ballot would seldom get far.
	x := r.runs[max(below(len(r.runs)), below(len(r.runs)))]
	switch i := below(len(r.acceptors)); {
	case kind < 6:
		r.prepare(x, i)
	case kind < 8:
		r.pick(x, below(len(r.acceptors)), "v"+string(rune('0'+len(r.runs)))+string(rune('0'+x.ballot.Mon)))
	default:
		r.accept(x, i)
	}
}

// Ba4: many long runs of one to seven acceptors, and of many that run against one
// another.
func TestOneDecreeInManyRuns(t *testing.T) {
	n := numbers(11)
	one, again, values := 0, 0, map[string]int{}
	for i := range 3000 {
		r := newRace(t, 1+i%(topMon+1))
		for range 150 {
			r.step(n.below)
			r.look()
		}
		for v, by := range r.chosen {
			values[v]++
			one++
			if len(by) > 1 {
				again++
			}
		}
	}
	if one < 1000 || again < 300 || len(values) < 10 {
		t.Errorf("a value was chosen in %d runs, by several ballots in %d, of %d values", one, again, len(values))
	}
}

// Ba2, Ba4: one acceptor, any ballots in any order: what it promised never falls,
// and what it accepts is what was not lower than all that it was asked for ahead.
func TestAnAcceptorsLife(t *testing.T) {
	n := numbers(5)
	for range 500 {
		var a api.Acceptor
		highest, last, value := api.Ballot{}, api.Ballot{}, ""
		for i := range 20 {
			b, ok := n.ballot(), false
			v := string(rune('a' + i))
			accept := n.below(2) == 0
			if accept {
				a, ok = ballot.Accept(a, b, []byte(v))
			} else {
				a, ok = ballot.Prepare(a, b)
			}
			want := slowMay(b) && !slowLess(b, highest)
			if want {
				highest = b
			}
			if want && accept {
				last, value = b, v
			}
			if ok != want || !same(a, acc(highest, last, value)) || !ballot.May(a) {
				t.Fatalf("behind %v: %v and %v, and not %v, %v, %q and %v", b, a, ok, highest, last, value, want)
			}
		}
	}
}

// Ba1, Ba2, Ba3: any ballots, acceptors and lists, held against the chapter's words.
func TestManyCalls(t *testing.T) {
	n := numbers(1)
	chosen, none, own := 0, 0, 0
	for range 20000 {
		a, b, v := n.acceptor(), n.ballot(), n.value()
		if got := ballot.May(a); got != slowMayAcceptor(a) {
			t.Fatalf("May(%v) is %v", a, got)
		}
		want, ok := slowPrepare(a, b)
		prepares(t, a, b, want, ok)
		want, ok = slowAccept(a, b, v)
		accepts(t, a, b, string(v), want, ok)
		var l []api.Acceptor
		for range n.below(6) {
			l = append(l, n.acceptor())
		}
		if n.below(3) == 0 {
			l = append(l, l...)
		}
		picks(t, l, string(v), string(slowPick(l, v)))
		if b, value, ok := slowChosen(l); ok {
			chooses(t, l, b, string(value))
			chosen++
		} else {
			choosesNone(t, l)
			none++
		}
		if len(l) > 0 && !slices.ContainsFunc(l, func(a api.Acceptor) bool { return a.Accepted != api.Ballot{} }) {
			own++
		}
	}
	if chosen < 1000 || none < 1000 || own < 500 {
		t.Errorf("%d were chosen, %d were none, %d had none accepted", chosen, none, own)
	}
}

// Ba1: Next, again and again: each ballot is above the one ahead, and none of mon
// lies between.
func TestNextAgainAndAgain(t *testing.T) {
	n := numbers(3)
	seen := api.Ballot{}
	for range 5000 {
		mon := n.below(topMon + 1)
		next, ok := ballot.Next(seen, mon)
		if !ok || next.Mon != mon || place(next) <= place(seen) || place(next)-place(seen) > topMon+1 && seen.Round > 0 {
			t.Fatalf("Next(%v, %d): %v and %v", seen, mon, next, ok)
		}
		seen = next
	}
}

// Ba4: whatever a list of bytes lets be done.
func FuzzOneDecree(f *testing.F) {
	f.Add([]byte{3, 0, 1, 2, 3, 4, 5, 6, 7, 8, 9, 10, 11, 12, 13, 14})
	f.Add([]byte{7, 12, 3, 2, 9, 12, 7, 7, 9, 9, 1, 2, 3, 4, 5, 6, 7, 8, 9})
	f.Fuzz(func(t *testing.T, b []byte) {
		next := func(limit int) int {
			if len(b) == 0 {
				return 0
			}
			x := int(b[0]) % limit
			b = b[1:]
			return x
		}
		r := newRace(t, 1+next(topMon+1))
		for len(b) > 0 {
			r.step(next)
			r.look()
		}
	})
}

// Ba1, Ba2, R1: any numbers.
func FuzzCalls(f *testing.F) {
	f.Add(3, 1, 2, 0, 1, 0, []byte("v"))
	f.Add(topRound, topMon, 0, 0, 0, -1, []byte(nil))
	f.Fuzz(func(t *testing.T, r1, m1, r2, m2, r3, m3 int, v []byte) {
		one, two, three := bal(r1, m1), bal(r2, m2), bal(r3, m3)
		if ballot.Less(one, two) != slowLess(one, two) {
			t.Fatalf("Less(%v, %v)", one, two)
		}
		got, ok := ballot.Next(one, m2)
		if want, wantOk := slowNext(one, m2); got != want || ok != wantOk {
			t.Fatalf("Next(%v, %d): %v and %v", one, m2, got, ok)
		}
		a := api.Acceptor{Promised: one, Accepted: two, Value: v}
		want, ok := slowPrepare(a, three)
		prepares(t, a, three, want, ok)
		want, ok = slowAccept(a, three, []byte("w"))
		accepts(t, a, three, "w", want, ok)
		l := []api.Acceptor{{}, a, {Accepted: three}, a, {Promised: three}}
		picks(t, l, "own", string(slowPick(l, []byte("own"))))
	})
}
